/-
  Contracts of package table at one type of values: slices.Clone, All; and of no table.
-/
import Derived.Test.YthkngenmdogpjaaTabPutP
import Derived.WalkSpells
namespace Go.Proofs.Ythkngenmdogpjaa
open Go.RowKit

set_option maxRecDepth 100000 in
theorem cloneP_h (a : Addr) (n c : Nat) (l : List Pair) (w : World) (h : Hid (Sl pairE w (some a) n c l)) (hn : n ≤ 65536) :
    Calls Try.prog 34 #[.slice (some a) n c] w fun e w' => ∃ (E : Option Addr) (c : Nat), e = .returned (.slice E l.length c) ∧ Sl pairE w' E l.length c l ∧ Below w.heap.size w w' ∧ New w.heap.size E ∧ OwnB pairE w' E l := by
  have own0 := Lib.hid (World.ownsRow_lit (base := w.heap.size) (e := 30) (size := 2) w #[] 0 (Nat.le_refl _) (Nat.zero_le _) (by rfl))
  have b0 := Lib.hid ((Below.refl w.heap.size w).alloc (Nat.le_refl _) (.cells #[] 30))
  have hbase : Hid (w.heap.size ≤ (w.alloc (.cells #[] 30)).heap.size) := Lib.hid (by simp)
  have hnil := fun w => Lib.run_eql_slice_nil (P := Try.prog) w 43 30 (some a) n c 0 0 Try.underlying43
  go_enter Try.func34, Try.ntmps34
  go_wp2_with (at_builtin; refine append_row (f := pairE) (l := []) rfl (.tmp 5) (.tmp 6) 43 30 rfl _ 24 Try.underlying43 infoP rfl (by decide) (by decide) pairE_len pairE_one w.heap.size _ 0 rfl own0.out w.heap.size (some a) n c l rfl (fun h => by cases h) (Lib.hid h.out.len) (h.out.at_.keep b0.out) (by omega) hbase.out ?_; intro v1 w1 h3 h4 h5)
  have hb1 := b0.out.grown h4 (by simp) (fun k hk => (own0.out.lt k hk).1)
  simp only [Nat.zero_add, List.nil_append] at h3
  have e : n = l.length := h.out.len
  subst e
  obtain ⟨A1, c1, rfl, S1, hN⟩ := Sl.own h3 pairE_len (by omega)
  have hM : Hid (∃ (E : Option Addr) (c : Nat), Ending.returned (.slice A1 l.length c1) = .returned (.slice E l.length c) ∧ Sl pairE w1 E l.length c l ∧ Below w.heap.size w w1 ∧ New w.heap.size E ∧ OwnB pairE w1 E l) := Lib.hid ⟨A1, c1, rfl, S1, hb1, hN, Sl.ownB pairE_len (by omega) h3⟩
  clear h3 h4 h5 own0 b0 hbase hb1 S1 hN
  generalize l.length = q at *
  go_wp2_with fail
  go_ret
  exact hM.out

set_option maxRecDepth 100000 in
theorem allP_no (tb cb vb : Nat) (l : List (Option Pair)) (w : World) (h : Hid (Tab pairE pair0 w tb cb vb l)) (hn : l.length ≤ 65536) (hl : 0 < leftN l) :
    Calls Try.prog 18 #[.pointer (some ⟨tb, 0, none⟩)] w fun e w' => e = .returned (.tuple #[.slice none 0 0, .int .i64 4]) ∧ w = w' := by
  have kl := leftP_h tb cb vb l w h hn
  generalize leftN l = q at *
  clear h hn
  have i1 : (0 : Int) < (q : Int) := by omega
  go_enter Try.func18, Try.ntmps18
  go_wp2_with (go_at_call 15; refine kl.mono ?_; rintro e w' ⟨rfl, rfl⟩)
  go_ret2
  exact ⟨rfl, rfl⟩

/-- What is published, as a list. -/
def allVP (l : List (Option Pair)) : List Pair := l.map (·.getD pair0)
theorem allVP_len (l : List (Option Pair)) : (allVP l).length = l.length := by simp [allVP]
theorem tabP_sl {w : World} {tb cb vb : Nat} {l : List (Option Pair)} (h : Tab pairE pair0 w tb cb vb l) : Sl pairE w (some ⟨vb, 0, none⟩) l.length l.length (allVP l) := by
  refine ⟨by simp [allVP], Nat.le_refl _, (fun h => by cases h), fun _ => ⟨_, rfl, h.vals.lt, fun j u hu => ?_⟩⟩
  have e : (Addr.add ⟨vb, 0, none⟩ j) = ⟨vb, j, none⟩ := by
    unfold Addr.add; by_cases h : j = 0 <;> simp [h]
  rw [e]
  refine h.vals.cell j u ?_
  rw [← hu, allVP, List.flatMap_map]
  rfl

set_option maxRecDepth 100000 in
theorem allP_yes (tb cb vb : Nat) (l : List (Option Pair)) (w : World) (h : Hid (Tab pairE pair0 w tb cb vb l)) (hn : l.length ≤ 65536) (hl : leftN l = 0) :
    Calls Try.prog 18 #[.pointer (some ⟨tb, 0, none⟩)] w fun e w' => ∃ (E : Option Addr) (c : Nat), e = .returned (.tuple #[.slice E l.length c, .int .i64 0]) ∧ Sl pairE w' E l.length c (allVP l) ∧ Below w.heap.size w w' ∧ New w.heap.size E ∧ OwnB pairE w' E (allVP l) := by
  have kl := leftP_h tb cb vb l w h hn
  have kc := cloneP_h ⟨vb, 0, none⟩ l.length l.length (allVP l) w (Lib.hid (tabP_sl h.out)) hn
  have h1 := h.out.head.cell 1 _ rfl
  have hq := Lib.hid (allVP_len l)
  rw [hl] at kl
  clear h hn hl
  rw [hq.out] at kc
  generalize l.length = n at *
  generalize allVP l = v at *
  go_enter Try.func18, Try.ntmps18
  go_wp2_with (go_at_call 15; refine kl.mono ?_; rintro e w' ⟨rfl, rfl⟩)
  refine kc.mono ?_; rintro e w1 ⟨E, c, rfl, hS, hb, hN, hO⟩
  have hM := Lib.hid (And.intro hS (And.intro hb (And.intro hN hO)))
  clear hS hb hN hO
  go_wp2_with fail
  go_ret2
  exact ⟨E, c, rfl, hM.out⟩

/-! Of no table. -/
theorem putP_nil (i : Int) (x : Pair) (w : World) :
    Calls Try.prog 11 #[.pointer none, .int .i64 i, .agg #[.int .i64 x.a, .string x.b]] w fun e w' => e = .returned (.int .i64 2) ∧ Below w.heap.size w w' := by
  have hB := Lib.hid ((Below.refl w.heap.size w).alloc (Nat.le_refl _) (.cells #[.int .i64 x.a, .string x.b] 30))
  go_enter Try.func11, Try.ntmps11
  go_wp2_with fail
  go_ret
  exact ⟨rfl, hB.out⟩
theorem sizeP_nil (w : World) : Calls Try.prog 17 #[.pointer none] w fun e w' => e = .returned (.int .i64 0) ∧ w = w' := by
  go_enter Try.func17, Try.ntmps17
  go_wp2_with fail
  go_ret
  exact ⟨rfl, rfl⟩
theorem leftP_nil (w : World) : Calls Try.prog 15 #[.pointer none] w fun e w' => e = .returned (.int .i64 0) ∧ w = w' := by
  go_enter Try.func15, Try.ntmps15
  go_wp2_with fail
  go_ret
  exact ⟨rfl, rfl⟩
theorem allP_nil (w : World) : Calls Try.prog 18 #[.pointer none] w fun e w' => e = .returned (.tuple #[.slice none 0 0, .int .i64 2]) ∧ w = w' := by
  go_enter Try.func18, Try.ntmps18
  go_wp2_with fail
  go_ret2
  exact ⟨rfl, rfl⟩

theorem newP_no (i : Int) (w : World) (h : i < 0 ∨ 65536 < i) : Calls Try.prog 9 #[.int .i64 i] w fun e w' => e = .returned (.tuple #[.pointer none, .int .i64 1]) ∧ w = w' := by
  rcases h with h | h
  all_goals
    go_enter Try.func9, Try.ntmps9
    go_wp2_with fail
    go_ret2
    exact ⟨rfl, rfl⟩
end Go.Proofs.Ythkngenmdogpjaa
