/-
  Contract of the document's answer for lengths: a number without needless noughts.
-/
import Derived.Test.YtnmfcbmdopmglaaOf
namespace Go.Proofs.Ytnmfcbmdopmglaa
open Go.RowKit

def Tk (al : List Bool) (k : Nat) : Prop := Dg.val (al.drop k) = 0

/-- What short answers: the same number, without needless noughts, in the same place. -/
def Shorted (w : World) (mi : Bool) (A : Option Addr) (n c : Nat) (al : List Bool) (e : Ending) (w' : World) : Prop :=
  ∃ (mi' : Bool) (k : Nat) (l : List Bool), e = .returned (.agg #[.bool mi', .slice A k c]) ∧ k ≤ n ∧ sgn mi' l = sgn mi al ∧ TopS mi' l ∧ SlB w' A k c l ∧ Below w.heap.size w w'

theorem val_drop_le (l : List Bool) (i : Nat) : Dg.val (l.drop i) ≤ Dg.val l := by
  obtain ⟨t, _, e⟩ := Dg.val_split l i
  have h1 : 1 * Dg.val (l.drop i) ≤ 2 ^ i * Dg.val (l.drop i) := Nat.mul_le_mul_right _ (Nat.two_pow_pos i)
  omega
theorem top_pos {l : List Bool} (h : Top l) (hl : 0 < l.length) : 0 < Dg.val l := by
  have h1 := val_drop_le l (l.length - 1)
  have h2 := Dg.val_drop l (l.length - 1)
  unfold Dg.dig at h2
  rw [h hl] at h2
  have h3 : Dg.b2n true = 1 := rfl
  omega

theorem short_end {w w' : World} {mi mi' : Bool} {A : Option Addr} {n c k : Nat} {al : List Bool} (h : SlB w A n c al) (hk : k ≤ n) (ht : Tk al k) (hd : k = 0 ∨ al.getD (k - 1) false = true) (hm : (mi' = mi ∧ 0 < k) ∨ (mi' = false ∧ k = 0)) (hb : Below w.heap.size w w') :
    Shorted w mi A n c al (.returned (.agg #[.bool mi', .slice A k c])) w' := by
  have e : Dg.val (al.take k) = Dg.val al := Dg.val_take al k ht
  have htop : Top (al.take k) := by
    intro hp
    have := h.len
    have hl : (al.take k).length = k := by simp; omega
    rw [hl] at hp ⊢
    rcases hd with h0 | h0
    · omega
    · simpa [List.getD, show k - 1 < k by omega] using h0
  refine ⟨mi', k, al.take k, rfl, hk, ?_, ⟨htop, fun hm' => ?_⟩, (h.keep hb).take k hk, hb⟩
  · unfold sgn
    rcases hm with ⟨rfl, _⟩ | ⟨_, rfl⟩
    · rw [e]
    · simp only [List.take_zero, Dg.val] at e
      rw [← e]; simp [Dg.val]
  · rcases hm with ⟨_, h0⟩ | ⟨h0, _⟩
    · exact top_pos htop (by have := h.len; simp; omega)
    · rw [h0] at hm'; cases hm'

set_option maxRecDepth 100000 in
set_option maxHeartbeats 800000 in
theorem short_any (mi : Bool) (A : Option Addr) (n c : Nat) (al : List Bool) (w : World) (hS : Hid (SlB w A n c al)) (hl : n ≤ 1000000) :
    Calls Try.prog 62 #[.agg #[.bool mi, .slice A n c]] w fun e w' => Shorted w mi A n c al e w' := by
  have hst : Hid (Tk al n) := Lib.hid (by unfold Tk; rw [List.drop_of_length_le (by rw [← hS.out.len]; exact Nat.le_refl _)]; rfl)
  have hc := hS.out.cap
  cases mi
  all_goals
    go_enter Try.func62, Try.ntmps62
    go_wp2_with fail
    go_loop [3] (fun v => ∃ k : Nat, v = .int .i64 k ∧ k ≤ n ∧ Hid (Tk al k)) (fun v => (intOf v).toNat)
    case atStart => exact ⟨n, rfl, Nat.le_refl _, hst⟩
    case round =>
      obtain ⟨k, rfl, hk, hinv⟩ := hrel
      rcases Nat.eq_zero_or_pos k with h0 | h0
      · subst h0
        go_wp2_with fail
        refine bodyPost_ret (v := .agg #[.bool false, .slice A 0 c]) (by simp [results, Try.results62, go_sem]) rfl (short_end hS.out hk hinv.out (Or.inl rfl) (Or.inr ⟨rfl, rfl⟩) (((Below.refl _ _).alloc (Nat.le_refl _) _).alloc (by simp) _))
      · obtain ⟨j, rfl⟩ : ∃ j, k = j + 1 := ⟨k - 1, by omega⟩
        obtain ⟨a, rfl, hb, hcell⟩ := hS.out.bits (by rw [← hS.out.len]; omega)
        have hW := fun m => (((Below.refl w.heap.size w).alloc (Nat.le_refl _) (.cells #[.bool m, .slice (some a) n c] 86)).alloc (by simp) (.cells #[.bool false, .slice none 0 0] 86)).cell (p := a.add j) (by rw [add_block]; exact hb)
        have hW1 := hW true
        have hW2 := hW false
        clear hW
        rw [hcell j (by rw [← hS.out.len]; omega)] at hW1 hW2
        clear hcell
        rcases hd : al.getD j false with _ | _
        · rw [hd] at hW1 hW2
          have hnx : Hid (Tk al j) := Lib.hid (by unfold Tk; rw [Dg.val_drop]; unfold Dg.dig; rw [hd]; have := hinv.out; unfold Tk at this; rw [this]; rfl)
          have hd' := Lib.hid hd
          clear hd
          go_wp2_with fail
          go_round
          case rel => exact ⟨j, by go_num, by omega, hnx⟩
          case measure => simp [intOf]
        · rw [hd] at hW1 hW2
          have hd' := Lib.hid hd
          clear hd
          go_wp2_with fail
          refine bodyPost_ret (v := .agg #[.bool _, .slice (some a) (j + 1) c]) (by simp [results, Try.results62, go_sem]) rfl (short_end hS.out hk hinv.out (Or.inr hd'.out) (Or.inl ⟨rfl, Nat.succ_pos _⟩) (((Below.refl _ _).alloc (Nat.le_refl _) _).alloc (by simp) _))
end Go.Proofs.Ytnmfcbmdopmglaa
