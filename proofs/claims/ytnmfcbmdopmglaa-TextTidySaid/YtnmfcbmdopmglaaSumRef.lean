/-
  Contract of the document's answer for lengths: the sum of numbers, cut.
-/
import Derived.Test.YtnmfcbmdopmglaaCutRef
import Derived.Test.YtnmfcbmdopmglaaSum
namespace Go.Proofs.Ytnmfcbmdopmglaa
open Go.RowKit

/-- What the loop keeps: the sum so far lies in block w0.heap.size. -/
def SInv (w0 : World) (zs : List Int) (k : Nat) (wr : World) : Prop :=
  ∃ (mi : Bool) (E : Option Addr) (n c : Nat) (l : List Bool), BCell wr w0.heap.size (.bool mi) (.slice E n c) ∧ SlB wr E n c l ∧ Fresh (w0.heap.size + 1) E ∧ sgn mi l = (zs.take k).sum ∧ n ≤ 64 + k ∧ Below w0.heap.size w0 wr

theorem sinv_start (w : World) (zs : List Int) : SInv w zs 0 (w.alloc (.cells #[.bool false, .slice none 0 0] 86)) :=
  ⟨false, none, 0, 0, [], BCell.new w _ _ _, slb_nil _, fun a h => (by cases h), by simp [sgn, Dg.val], by omega, (Below.refl _ _).alloc (Nat.le_refl _) _⟩

theorem sinv_step {w0 wr w1 w2 : World} {zs : List Int} {k : Nat} {mi mi2 : Bool} {E E2 : Option Addr} {n c n2 c2 : Nat} {l l2 : List Bool} {x : Int}
    (hb : Below w0.heap.size w0 wr) (hl : n ≤ 64 + k) (hs : w0.heap.size < wr.heap.size) (h1 : Below wr.heap.size wr w1) (h2 : Below w1.heap.size w1 w2) (hc : BCell w2 w0.heap.size (.bool mi) (.slice E n c)) (hS : SlB w2 E2 n2 c2 l2) (hf : Fresh w1.heap.size E2)
    (hv : sgn mi2 l2 = sgn mi l + x) (hv0 : sgn mi l = (zs.take k).sum) (hx : (zs.take (k + 1)).sum = (zs.take k).sum + x) (hn : n2 ≤ max n 64 + 1) :
    SInv w0 zs (k + 1) ((w2.setCell ⟨w0.heap.size, 0, none⟩ (.bool mi2)).setCell ⟨w0.heap.size, 1, none⟩ (.slice E2 n2 c2)) := by
  have hne : ∀ a, E2 = some a → a.block ≠ w0.heap.size := fun a ha => by have := hf a ha; have := h1.size; omega
  refine ⟨mi2, E2, n2, c2, l2, (hc.set0 _).set1 _, (hS.setOther _ hne _).setOther _ hne _, fun a ha => by have := hf a ha; have := h1.size; omega, by rw [hx, ← hv0]; exact hv, by omega, ?_⟩
  exact (((hb.trans (h1.mono (Nat.le_of_lt hs))).trans (h2.mono (by have := h1.size; omega))).setCell (by simp) _).setCell (by simp) _

theorem s4 {W : World} {g : Nat} {a b : Value} {p : Addr} {x : Value} (b1 : BCell W g a b) (h : W.cell? p = some x) : W.cell? ⟨g, 0, none⟩ = some a ∧ W.cell? ⟨g, 1, none⟩ = some b ∧ W.cell? p = some x := ⟨b1.c0, b1.c1, h⟩

set_option maxRecDepth 100000 in
set_option maxHeartbeats 1600000 in
theorem refsum_any (A : Option Addr) (cap n : Nat) (zs : List Int) (w : World) (h : Ints w w.heap.size A zs) (hn : Hid (n = zs.length)) (hl : n ≤ 20000) :
    Calls Try.prog 45 #[.slice A n cap] w fun e w' => MadeCut w zs.sum e w' := by
  have hz' := Lib.hid h.1
  have hA' := Lib.hid h.2
  clear h
  have hst := Lib.hid (sinv_start w zs)
  go_enter Try.func45, Try.ntmps45
  go_wp2_with fail
  go_loopw [5] (fun i wr => ∃ k : Nat, k ≤ n ∧ i = .int .i64 k ∧ Hid (SInv w zs k wr)) (fun i _ => n - (intOf i).toNat)
  case atStart => exact ⟨0, Nat.zero_le _, rfl, hst⟩
  case round =>
    obtain ⟨k, hk, rfl, hinv⟩ := hrel
    obtain ⟨mi, E, m, c, l, hB, hS, hF, hv0, hm, hbw⟩ := hinv.out
    have hv := Lib.hid hv0
    clear hv0
    have c0 := hB.c0
    have c1 := hB.c1
    by_cases hlt : k < n
    · obtain ⟨a, rfl, hab, hac⟩ := hA'.out (by rw [← hn.out]; omega)
      have hc := hbw.cell (p := a.add k) (by rw [add_block]; exact hab)
      rw [hac k (by rw [← hn.out]; omega)] at hc
      have hzk : I64 (zs.getD k 0) := by
        have hk' : k < zs.length := by rw [← hn.out]; exact hlt
        rw [List.getD_eq_getElem?_getD, List.getElem?_eq_getElem hk']
        exact hz'.out _ (List.getElem_mem hk')
      have hnx := Lib.hid (sum_take_succ zs k (by rw [← hn.out]; exact hlt))
      have hsz := hB.lt
      clear hac hinv
      generalize zs.getD k 0 = x at *
      have hzk := Lib.hid hzk
      have hi1 : (0 : Int) ≤ (k : Int) := by omega
      have hi2 : (k : Int) < (n : Int) := by omega
      go_wp2_with fail
      go_region_with
        (first | (go_at_call 42; refine (of_any x _ hzk.out).mono ?_; rintro e w1 ⟨m1, E1, k1, cc1, l1, rfl, hk1, hv1', ht1, hS1, hb1, hfr1⟩; have b11 := (hB.drew).below hb1 hsz; have hv1 := Lib.hid hv1'; clear hv1'; have hS0 := (hS.drew).keep hb1; have r0 := b11.c0; have r1 := b11.c1)
               | (go_at_call 58; refine (add_any mi m1 E E1 m k1 c cc1 l l1 _ hS0 hS1 (by omega) (by omega)).mono ?_; rintro e w2 ⟨m2, E2, k2, cc2, l2, rfl, hk2, hv2', ht2, hS2, hb2, hfr2⟩; have b12 := b11.below hb2 b11.lt; have hv2 := Lib.hid hv2'; clear hv2'; have f0 := b12.f0; have f1 := b12.f1; have r2 := b12.c0; have r3 := b12.c1))
      all_goals
        have hnew := Lib.hid (sinv_step hbw hm hB.lt ((Below.refl wr.heap.size wr).drew.trans hb1) hb2 b12 hS2 hfr2 (by rw [hv2.out, hv1.out]) hv.out hnx.out (by omega))
        clear r0 r1 r2 r3 f0 f1 hb1 hb2 b11 b12 hS0 hS1 hS2 hfr1 hfr2 ht1 ht2 c0 c1
        go_wp2_with fail
        go_roundw
        case rel => exact ⟨k + 1, by omega, by go_num, hnew⟩
        case measure => simp [intOf]; omega
    · have hkn : k = n := by omega
      have hsum : Hid (sgn mi l = zs.sum) := Lib.hid (by rw [hv.out, List.take_of_length_le (by rw [← hn.out]; omega)])
      have hS := Lib.hid hS
      have hbw := Lib.hid hbw
      clear hinv hkn
      go_wp2_with fail
      refine (refcut_any mi E m c l _ hS.out (by omega)).mono ?_; rintro e w2 ⟨rfl, hb2⟩
      rw [hsum.out]
      have hfin := Lib.hid (hbw.out.trans (hb2.mono (Nat.le_of_lt hB.lt)))
      clear hb2
      go_wp2_with fail
      go_ret2
      exact ⟨rfl, hfin.out⟩
end Go.Proofs.Ytnmfcbmdopmglaa
