/-
  Contract of the statements' ends, of units that are no word's; what a chain of words says of its i-th one.
-/
import Derived.Test.YtnmfcbmdopmglaaLetter
import Derived.Test.YtnmfcbmdopmglaaRWords
namespace Go.Proofs.Ytnmfcbmdopmglaa
open Go.RowKit
set_option linter.unusedVariables false

theorem gap_cut {u : List Int} {a b m : Nat} (h : Gap u a b m) : (∀ x ∈ cut u a b, isW x = false) ∧ endsN (cut u a b) = m := by
  refine ⟨fun x hx => ?_, h.2.2.2⟩
  obtain ⟨j, hj⟩ := List.getElem?_of_mem hx
  unfold cut at hj
  rw [List.getElem?_drop, List.getElem?_take] at hj
  split at hj
  · have hw := h.w (k := a + j) (by omega) (by omega)
    unfold wAt at hw
    rw [hj] at hw
    exact hw
  · cases hj
theorem chn_at {u : List Int} : ∀ (ps : List Plc) (a z i : Nat) (p : Plc), Chn u a ps z → ps[i]? = some p → ∃ y, Chn u a (ps.take i) y ∧ Nxt u y p
  | [], a, z, i, p, h, hp => by simp at hp
  | q :: ps, a, z, 0, p, h, hp => by simp at hp; subst hp; exact ⟨a, rfl, h.1⟩
  | q :: ps, a, z, i + 1, p, h, hp => by
    obtain ⟨y, h1, h2⟩ := chn_at ps q.t z i p h.2 (by simpa using hp)
    exact ⟨y, ⟨h.1, h1⟩, h2⟩
theorem chn_det {u : List Int} : ∀ (ps : List Plc) (a z z' : Nat), Chn u a ps z → Chn u a ps z' → z = z'
  | [], a, z, z', h, k => by cases h; cases k; rfl
  | q :: ps, a, z, z', h, k => chn_det ps q.t z z' h.2 k.2
theorem chn_take {u : List Int} {ps : List Plc} {a y i : Nat} {p : Plc} (h : Chn u a (ps.take i) y) (hp : ps[i]? = some p) (hn : Nxt u y p) : Chn u a (ps.take (i + 1)) p.t := by
  rw [List.take_succ_eq_append_getElem (List.getElem?_eq_some_iff.1 hp).1, (List.getElem?_eq_some_iff.1 hp).2]
  exact chn_snoc _ a y p h hn
theorem nxt_ne {u : List Int} {ps : List Plc} {y i : Nat} {p : Plc} (h : Chn u 0 (ps.take i) y) (hi : 0 < i) (hp : ps[i]? = some p) (hn : Nxt u y p) : p.s ≠ y := by
  intro e
  have hw := chn_end _ 0 y h (by
    intro h0
    have := congrArg List.length h0
    have hl := (List.getElem?_eq_some_iff.1 hp).1
    rw [List.length_take] at this
    simp only [List.length_nil] at this
    omega)
  have := hn.2.2.1.2 p.s (Nat.le_refl _) hn.2.1
  rw [e, hw] at this
  cases this
theorem wrds_get {A u : List Int} {ps : List Plc} {i : Nat} {p : Plc} (h : ps[i]? = some p) : ∃ b, (wrds A u ps)[i]? = some (wrdOf A u b p) := by
  cases ps with
  | nil => simp at h
  | cons q ps =>
    cases i with
    | zero => simp at h; subst h; exact ⟨true, rfl⟩
    | succ i => exact ⟨false, by simp at h; simp [wrds, h]⟩
theorem wrds_get' {A u : List Int} {ps : List Plc} {i : Nat} {p : Plc} (h : ps[i]? = some p) : (wrds A u ps)[i]? = some (wrdOf A u (decide (i = 0)) p) := by
  cases ps with
  | nil => simp at h
  | cons q ps =>
    cases i with
    | zero => simp at h; subst h; rfl
    | succ i => simp at h; simp [wrds, h]

set_option maxRecDepth 100000 in
/-- The units from a place on, as a slice. -/
theorem slice_end (U : Option Addr) (n c y : Nat) (u : List Int) (w : World) (hU : Sl u16E w U n c u) (hy : y ≤ n) :
    ∃ V, (∀ w, (Instr.slice 36 (.slice U n c) (some (.int .i64 (y : Int))) none none).run Try.prog w = .ok (.slice V (n - y) (c - y)) w) ∧ Sl u16E w V (n - y) (c - y) (cut u y u.length) := by
  have hcap := hU.cap
  have hlen := hU.len
  refine ⟨if c = y then U else U.map (·.add (y * 1)), fun w => ?_, ?_⟩
  · rw [run_slice_l (P := Try.prog) (w := w) 36 U n c Try.underlying36 .i64 (y : Int) (by omega) (by omega)]
    have hs : (sizeOf (Try.prog.elem 36)).run Try.prog w = .ok 1 w := by kernel_rfl
    rw [hs]
    simp [Result.andThen, sliced]
  · by_cases h : c = y
    · rw [if_pos h]
      have e : cut u y u.length = [] := by unfold cut; apply List.eq_nil_of_length_eq_zero; simp; omega
      rw [e]
      exact ⟨by simp; omega, by omega, fun _ => ⟨by omega, by omega⟩, Holds.nil_⟩
    · rw [if_neg h]
      cases U with
      | none => have := hU.nil rfl; omega
      | some a =>
        have k := hU.sub u16E_len hy (Nat.le_refl n)
        rw [hlen] at k ⊢
        exact k

set_option maxRecDepth 100000 in
set_option maxHeartbeats 800000 in
theorem ends_h (U : Option Addr) (n c : Nat) (u : List Int) (w : World) (hU : Hid (Sl u16E w U n c u)) (hu : Hid (∀ x ∈ u, U16 x)) (hg : Hid (∀ x ∈ u, isW x = false)) (hn : n ≤ 1000000) :
    Calls Try.prog 27 #[.slice U n c] w fun e w' => e = .returned (.int .i64 (endsN u : Int)) ∧ w = w' := by
  go_enter Try.func27, Try.ntmps27
  go_wp2_with fail
  go_loopw [3, 4] (fun e i wr => ∃ k : Nat, k ≤ n ∧ i = .int .i64 k ∧ e = .int .i64 (endsN (u.take k) : Int) ∧ wr = w) (fun _ i _ => n - (intOf i).toNat)
  case atStart => exact ⟨0, Nat.zero_le _, rfl, rfl, rfl⟩
  case round =>
    obtain ⟨k, hk, rfl, rfl, rfl⟩ := hrel
    by_cases hlt : k < n
    · have i1 : (0 : Int) ≤ (k : Int) := by omega
      have i2 : (k : Int) < (n : Int) := by omega
      obtain ⟨b, rfl, _, hc⟩ := u16_cell hU.out hlt
      have hl : k < u.length := by rw [← hU.out.len]; exact hlt
      have hx := u16_get hu.out k
      have hnx : endsN (u.take (k + 1)) = endsN (u.take k) + (if u.getD k 0 = 10 then 1 else 0) := by
        rw [List.take_succ_eq_append_getElem hl, endsN_snoc, List.getD_eq_getElem?_getD, List.getElem?_eq_getElem hl]
        rfl
      have hwx : isW (u.getD k 0) = false := by
        rw [List.getD_eq_getElem?_getD, List.getElem?_eq_getElem hl]
        exact hg.out _ (List.getElem_mem hl)
      have hle : endsN (u.take k) ≤ k := by
        have h1 : endsN (u.take k) ≤ (u.take k).length := List.length_filter_le _ _
        have h2 : (u.take k).length ≤ k := List.length_take_le _ _
        omega
      generalize u.getD k 0 = x at *
      generalize endsN (u.take k) = e0 at *
      obtain ⟨x0, x1⟩ := hx
      have hxx : x = 32 ∨ x = 10 := by
        unfold isW at hwx
        rcases Bool.and_eq_false_iff.1 hwx with h | h
        · exact .inl (by simpa using h)
        · exact .inr (by simpa using h)
      clear hwx
      rcases hxx with rfl | rfl
      · have hnx : Hid (endsN (u.take (k + 1)) = e0) := Lib.hid hnx
        go_wp2_with fail
        go_roundw
        case rel => exact ⟨k + 1, by omega, by go_num, by rw [hnx.out], trivial⟩
        case measure => simp [intOf]; omega
      · have hnx : Hid (endsN (u.take (k + 1)) = e0 + 1) := Lib.hid hnx
        go_wp2_with fail
        go_roundw
        case rel => exact ⟨k + 1, by omega, by go_num, by rw [hnx.out]; go_num, trivial⟩
        case measure => simp [intOf]; omega
    · have e : Hid (u.take k = u) := Lib.hid (List.take_of_length_le (by rw [← hU.out.len]; omega))
      rw [e.out]
      have hlt' : ¬ (k : Int) < (n : Int) := by omega
      go_wp2_with fail
      go_ret
      exact ⟨rfl, rfl⟩
end Go.Proofs.Ytnmfcbmdopmglaa
