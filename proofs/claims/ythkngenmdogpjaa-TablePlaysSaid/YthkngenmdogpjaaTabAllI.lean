/-
  Contracts of package table at one type of values: slices.Clone, All; and of no table.
-/
import Derived.Test.YthkngenmdogpjaaTabPutI
import Derived.WalkSpells
namespace Go.Proofs.Ythkngenmdogpjaa
open Go.RowKit

set_option maxRecDepth 100000 in
theorem cloneI_h (a : Addr) (n c : Nat) (l : List Int) (w : World) (h : Hid (Sl intE w (some a) n c l)) (hn : n ≤ 65536) :
    Calls Try.prog 36 #[.slice (some a) n c] w fun e w' => ∃ (E : Option Addr) (c : Nat), e = .returned (.slice E l.length c) ∧ Sl intE w' E l.length c l ∧ Below w.heap.size w w' ∧ New w.heap.size E ∧ OwnB intE w' E l := by
  have own0 := Lib.hid (World.ownsRow_lit (base := w.heap.size) (e := 2) (size := 1) w #[] 0 (Nat.le_refl _) (Nat.zero_le _) (by rfl))
  have b0 := Lib.hid ((Below.refl w.heap.size w).alloc (Nat.le_refl _) (.cells #[] 2))
  have hbase : Hid (w.heap.size ≤ (w.alloc (.cells #[] 2)).heap.size) := Lib.hid (by simp)
  have hnil := fun w => Lib.run_eql_slice_nil (P := Try.prog) w 55 2 (some a) n c 0 0 Try.underlying55
  go_enter Try.func36, Try.ntmps36
  go_wp2_with (at_builtin; refine append_row (f := intE) (l := []) rfl (.tmp 5) (.tmp 6) 55 2 rfl _ 8 Try.underlying55 infoI rfl (by decide) (by decide) intE_len intE_one w.heap.size _ 0 rfl own0.out w.heap.size (some a) n c l rfl (fun h => by cases h) (Lib.hid h.out.len) (h.out.at_.keep b0.out) (by omega) hbase.out ?_; intro v1 w1 h3 h4 h5)
  have hb1 := b0.out.grown h4 (by simp) (fun k hk => (own0.out.lt k hk).1)
  simp only [Nat.zero_add, List.nil_append] at h3
  have e : n = l.length := h.out.len
  subst e
  obtain ⟨A1, c1, rfl, S1, hN⟩ := Sl.own h3 intE_len (by omega)
  have hM : Hid (∃ (E : Option Addr) (c : Nat), Ending.returned (.slice A1 l.length c1) = .returned (.slice E l.length c) ∧ Sl intE w1 E l.length c l ∧ Below w.heap.size w w1 ∧ New w.heap.size E ∧ OwnB intE w1 E l) := Lib.hid ⟨A1, c1, rfl, S1, hb1, hN, Sl.ownB intE_len (by omega) h3⟩
  clear h3 h4 h5 own0 b0 hbase hb1 S1 hN
  generalize l.length = q at *
  go_wp2_with fail
  go_ret
  exact hM.out

set_option maxRecDepth 100000 in
theorem allI_no (tb cb vb : Nat) (l : List (Option Int)) (w : World) (h : Hid (Tab intE int0 w tb cb vb l)) (hn : l.length ≤ 65536) (hl : 0 < leftN l) :
    Calls Try.prog 22 #[.pointer (some ⟨tb, 0, none⟩)] w fun e w' => e = .returned (.tuple #[.slice none 0 0, .int .i64 4]) ∧ w = w' := by
  have kl := leftI_h tb cb vb l w h hn
  generalize leftN l = q at *
  clear h hn
  have i1 : (0 : Int) < (q : Int) := by omega
  go_enter Try.func22, Try.ntmps22
  go_wp2_with (go_at_call 26; refine kl.mono ?_; rintro e w' ⟨rfl, rfl⟩)
  go_ret2
  exact ⟨rfl, rfl⟩

/-- What is published, as a list. -/
def allVI (l : List (Option Int)) : List Int := l.map (·.getD int0)
theorem allVI_len (l : List (Option Int)) : (allVI l).length = l.length := by simp [allVI]
theorem tabI_sl {w : World} {tb cb vb : Nat} {l : List (Option Int)} (h : Tab intE int0 w tb cb vb l) : Sl intE w (some ⟨vb, 0, none⟩) l.length l.length (allVI l) := by
  refine ⟨by simp [allVI], Nat.le_refl _, (fun h => by cases h), fun _ => ⟨_, rfl, h.vals.lt, fun j u hu => ?_⟩⟩
  have e : (Addr.add ⟨vb, 0, none⟩ j) = ⟨vb, j, none⟩ := by
    unfold Addr.add; by_cases h : j = 0 <;> simp [h]
  rw [e]
  refine h.vals.cell j u ?_
  rw [← hu, allVI, List.flatMap_map]
  rfl

set_option maxRecDepth 100000 in
theorem allI_yes (tb cb vb : Nat) (l : List (Option Int)) (w : World) (h : Hid (Tab intE int0 w tb cb vb l)) (hn : l.length ≤ 65536) (hl : leftN l = 0) :
    Calls Try.prog 22 #[.pointer (some ⟨tb, 0, none⟩)] w fun e w' => ∃ (E : Option Addr) (c : Nat), e = .returned (.tuple #[.slice E l.length c, .int .i64 0]) ∧ Sl intE w' E l.length c (allVI l) ∧ Below w.heap.size w w' ∧ New w.heap.size E ∧ OwnB intE w' E (allVI l) := by
  have kl := leftI_h tb cb vb l w h hn
  have kc := cloneI_h ⟨vb, 0, none⟩ l.length l.length (allVI l) w (Lib.hid (tabI_sl h.out)) hn
  have h1 := h.out.head.cell 1 _ rfl
  have hq := Lib.hid (allVI_len l)
  rw [hl] at kl
  clear h hn hl
  rw [hq.out] at kc
  generalize l.length = n at *
  generalize allVI l = v at *
  go_enter Try.func22, Try.ntmps22
  go_wp2_with (go_at_call 26; refine kl.mono ?_; rintro e w' ⟨rfl, rfl⟩)
  refine kc.mono ?_; rintro e w1 ⟨E, c, rfl, hS, hb, hN, hO⟩
  have hM := Lib.hid (And.intro hS (And.intro hb (And.intro hN hO)))
  clear hS hb hN hO
  go_wp2_with fail
  go_ret2
  exact ⟨E, c, rfl, hM.out⟩

/-! Of no table. -/
theorem putI_nil (i : Int) (x : Int) (w : World) :
    Calls Try.prog 24 #[.pointer none, .int .i64 i, .int .i64 x] w fun e w' => e = .returned (.int .i64 2) ∧ Below w.heap.size w w' := by
  have hB := Lib.hid (Below.refl w.heap.size w)
  go_enter Try.func24, Try.ntmps24
  go_wp2_with fail
  go_ret
  exact ⟨rfl, hB.out⟩
theorem sizeI_nil (w : World) : Calls Try.prog 25 #[.pointer none] w fun e w' => e = .returned (.int .i64 0) ∧ w = w' := by
  go_enter Try.func25, Try.ntmps25
  go_wp2_with fail
  go_ret
  exact ⟨rfl, rfl⟩
theorem leftI_nil (w : World) : Calls Try.prog 26 #[.pointer none] w fun e w' => e = .returned (.int .i64 0) ∧ w = w' := by
  go_enter Try.func26, Try.ntmps26
  go_wp2_with fail
  go_ret
  exact ⟨rfl, rfl⟩
theorem allI_nil (w : World) : Calls Try.prog 22 #[.pointer none] w fun e w' => e = .returned (.tuple #[.slice none 0 0, .int .i64 2]) ∧ w = w' := by
  go_enter Try.func22, Try.ntmps22
  go_wp2_with fail
  go_ret2
  exact ⟨rfl, rfl⟩
theorem getI_nil (i : Int) (w : World) : Calls Try.prog 21 #[.pointer none, .int .i64 i] w fun e w' => e = .returned (.tuple #[.int .i64 0, .int .i64 2]) ∧ w = w' := by
  go_enter Try.func21, Try.ntmps21
  go_wp2_with fail
  go_ret2
  exact ⟨rfl, rfl⟩

theorem newI_no (i : Int) (w : World) (h : i < 0 ∨ 65536 < i) : Calls Try.prog 23 #[.int .i64 i] w fun e w' => e = .returned (.tuple #[.pointer none, .int .i64 1]) ∧ w = w' := by
  rcases h with h | h
  all_goals
    go_enter Try.func23, Try.ntmps23
    go_wp2_with fail
    go_ret2
    exact ⟨rfl, rfl⟩
end Go.Proofs.Ythkngenmdogpjaa
