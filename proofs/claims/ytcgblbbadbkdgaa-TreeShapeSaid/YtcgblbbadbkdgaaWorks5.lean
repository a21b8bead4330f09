/-
  Contract of the statements' anchor of stage 5: it answers true.
-/
import Derived.Test.YtcgblbbadbkdgaaRow5
import Derived.Test.YtcgblbbadbkdgaaDepths
import Derived.Test.YtcgblbbadbkdgaaLast
import Derived.Test.YtcgblbbadbkdgaaRoot
namespace Go.Proofs.Ytcgblbbadbkdgaa
open Go.RowKit
set_option linter.unusedVariables false

def ps1 : List Int := [-1, 0, 1, 0, 3]
def ks1 : List Int := [1, 1, 3, 2, 1]
def ps2 : List Int := [-1, 0, 1, 0, 2]
def ks2 : List Int := [1, 1, 1, 1, 1]
theorem e1 : checkI (rowN ps1 ks1) [] 0 = (0, 0) := by decide +kernel
theorem e2 : checkI (rowN ps2 ks2) [] 0 = (4, 6) := by decide +kernel
theorem e3 : checkI [] [] 0 = (0, 6) := by decide +kernel
theorem e4 : (kidsN (rowN ps1 ks1) 0 5) = [1, 3] := by decide +kernel
theorem e5 : lastN (rowN ps1 ks1) 0 5 = 4 ∧ lastN (rowN ps1 ks1) 1 5 = 2 ∧ dep (rowN ps1 ks1) 4 = 3 := by decide +kernel
theorem e6 : rootI (rowN ps1 ks1) 5 0 = true ∧ rootI (rowN ps1 ks1) 5 1 = false ∧ rootI (rowN ps1 ks1) 5 4 = true := by decide +kernel

theorem lits (w : World) (ps ks : List Int) : Holds intE ((w.alloc (.cells (ps.flatMap intE).toArray 3)).alloc (.cells (ks.flatMap u8E).toArray 5)) ((w.alloc (.cells (ps.flatMap intE).toArray 3)).alloc (.cells (ks.flatMap u8E).toArray 5)).heap.size (some ⟨w.heap.size, 0, none⟩) ps ∧
    Holds u8E ((w.alloc (.cells (ps.flatMap intE).toArray 3)).alloc (.cells (ks.flatMap u8E).toArray 5)) ((w.alloc (.cells (ps.flatMap intE).toArray 3)).alloc (.cells (ks.flatMap u8E).toArray 5)).heap.size (some ⟨w.heap.size + 1, 0, none⟩) ks := by
  refine ⟨(Holds.lit (f := intE) w ps 3).below ((Below.refl _ _).alloc (Nat.le_refl _) _), ?_⟩
  have h := Holds.lit (f := u8E) (w.alloc (.cells (ps.flatMap intE).toArray 3)) ks 5
  have e : (w.alloc (.cells (ps.flatMap intE).toArray 3)).heap.size = w.heap.size + 1 := by simp
  rw [e] at h
  exact h
theorem rows_h (w : World) (ps ks : List Int) (hp : Hid (ps.length = 5)) (hk : Hid (ks.length = 5)) :
    Calls Try.prog 38 #[.slice (some ⟨w.heap.size, 0, none⟩) 5 5, .slice (some ⟨w.heap.size + 1, 0, none⟩) 5 5] ((w.alloc (.cells (ps.flatMap intE).toArray 3)).alloc (.cells (ks.flatMap u8E).toArray 5))
      fun e w' => ∃ A c, e = .returned (.agg #[.slice A 5 c, .slice none 0 0, .int .i64 0]) ∧ TreeAt w' ⟨A, 5, c, rowN ps ks, none, 0, 0, [], 0⟩ ∧ Below w.heap.size w w' := by
  obtain ⟨h1, h2⟩ := lits w ps ks
  refine (row_h _ _ 5 ps ks _ (Lib.hid h1) (Lib.hid h2) hp hk (by omega)).mono ?_
  rintro e w' ⟨A, c, rfl, hS, hb⟩
  have hb0 := ((Below.refl w.heap.size w).alloc (Nat.le_refl _) (.cells (ps.flatMap intE).toArray 3)).alloc (by simp) (.cells (ks.flatMap u8E).toArray 5)
  exact ⟨A, c, rfl, ⟨hS, Sl.none_ _⟩, hb0.trans (hb.mono (by simp; omega))⟩

theorem chk_h (A : Option Addr) (n c : Nat) (ns : List NodeV) (V : World) (i : Nat) (j e : Int) (h : Hid (TreeAt V ⟨A, n, c, ns, none, 0, 0, [], 0⟩)) (hn : n ≤ 100000) (he : checkI ns [] 0 = (i, e)) (hj : (i : Int) = j) :
    Calls Try.prog 18 #[.agg #[.slice A n c, .slice none 0 0, .int .i64 0]] V fun r w' => r = .returned (.tuple #[.int .i64 j, .int .i64 e]) ∧ Below V.heap.size V w' := by
  have k := check_h ⟨A, n, c, ns, none, 0, 0, [], 0⟩ V h (by simp) hn
  simp only [he, hj] at k
  exact k
/-- The first tree of the chapter, boxed. -/
abbrev T1 (A : Option Addr) (c : Nat) : TreeV := ⟨A, 5, c, rowN ps1 ks1, none, 0, 0, [], 0⟩

set_option maxRecDepth 100000 in
set_option maxHeartbeats 3200000 in
theorem works5_any (w : World) : Calls Try.prog 16 #[] w fun e w' => e = .returned (.bool true) ∧ Below w.heap.size w w' := by
  have hr1 := fun w => rows_h w ps1 ks1 (Lib.hid rfl) (Lib.hid rfl)
  have hr2 := fun w => rows_h w ps2 ks2 (Lib.hid rfl) (Lib.hid rfl)
  go_enter Try.func16, Try.ntmps16
  go_upto_region 2 with (go_at_call 38; refine (hr1 w).mono ?_; rintro e w1 ⟨A, c, rfl, hS, hb1⟩)
  generalize hW : World.alloc w1 _ = V
  have hT := TBox.start hS hW
  obtain ⟨tb, htb⟩ : ∃ g, g = w1.heap.size := ⟨_, rfl⟩
  rw [← htb] at hT ⊢
  clear hW htb hS
  have k1 := chk_h A 5 c (rowN ps1 ks1) V 0 0 0 (Lib.hid hT.at_) (by omega) e1 rfl
  obtain ⟨c0, c1, c2⟩ := hT.cells
  replace hT : Hid (TBox w1 tb (T1 A c) V) := Lib.hid hT
  replace hb1 := Lib.hid hb1
  go_upto_region 3 with (go_at_call 18; refine k1.mono ?_; rintro e w2 ⟨rfl, hb2⟩)
  replace hT := Lib.hid (hT.out.below hb2)
  clear k1 hb2 c0 c1 c2
  go_upto_region 4 with (first | (go_at_call 38; refine (hr2 w2).mono ?_; rintro e w3 ⟨A2, c2, rfl, hS, hb3⟩; replace hT := Lib.hid (hT.out.below hb3); have k1 := chk_h A2 5 c2 (rowN ps2 ks2) w3 4 4 6 (Lib.hid hS) (by omega) e2 rfl; clear hS) | (go_at_call 18; refine k1.mono ?_; rintro e w4 ⟨rfl, hb4⟩))
  replace hT := Lib.hid (hT.out.below hb4)
  clear k1 hb4 hb3 hr1 hr2
  have k3 := chk_h none 0 0 [] w4 0 0 6 (Lib.hid ⟨Sl.none_ _, Sl.none_ _⟩) (by omega) e3 rfl
  go_upto_region 5 with (go_at_call 18; refine k3.mono ?_; rintro e w5 ⟨rfl, hb5⟩)
  replace hT := Lib.hid (hT.out.below hb5)
  clear k3 hb5
  have k5 := kids_h (T1 A c) w5 (Lib.hid hT.out.at_) (by simp)
  obtain ⟨c0, c1, c2⟩ := hT.out.cells
  go_upto_region 6 with (go_at_call 21; refine k5.mono ?_; rintro e w6 ⟨q, vs, rfl, hq, hql, hqs, -, hb6⟩)
  replace hT := Lib.hid (hT.out.below hb6)
  obtain ⟨A0, a0, hv0, hS0⟩ := hqs 0 (by decide)
  clear k5 hqs hb6 c0 c1 c2
  rw [e4] at hv0 hS0
  have hv := hv0
  have q0 := hq.cell 0 _ hv0
  replace hS0 : Hid (Sl intE w6 A0 2 a0 [1, 3]) := Lib.hid hS0
  clear hv0
  have ql := hq.lt
  have k6 := last_h (T1 A c) w6 (Lib.hid hT.out.at_) (by simp)
  obtain ⟨c0, c1, c2⟩ := hT.out.cells
  go_upto_region 7 with (go_at_call 26; refine k6.mono ?_; rintro e w7 ⟨p, rfl, hp, -, hb7⟩)
  replace hT := Lib.hid (hT.out.below hb7)
  replace hS0 := Lib.hid (hS0.out.below hb7)
  replace hq := hq.below hb7
  have p0 : w7.cell? ⟨p, 0, none⟩ = some (.int .i64 4) := hp.at_ (i := 0) (by rw [List.getElem?_map]; simp [e5.1])
  have p1 : w7.cell? ⟨p, 1, none⟩ = some (.int .i64 2) := hp.at_ (i := 1) (by rw [List.getElem?_map]; simp [e5.2.1])
  have pl := hp.lt_
  clear k6 hb7 c0 c1 c2 q0 ql
  have k7 := depths_h (T1 A c) w7 (Lib.hid hT.out.at_) (by simp)
  obtain ⟨c0, c1, c2⟩ := hT.out.cells
  replace hp := Lib.hid hp
  replace hq := Lib.hid hq
  go_upto_region 8 with (go_at_call 24; refine k7.mono ?_; rintro e w8 ⟨d, rfl, hd, -, hb8⟩)
  replace hT := Lib.hid (hT.out.below hb8)
  replace hS0 := Lib.hid (hS0.out.below hb8)
  have hq8 := hq.out.below hb8
  have hp8 := hp.out.below hb8
  have p0 : w8.cell? ⟨p, 0, none⟩ = some (.int .i64 4) := hp8.at_ (i := 0) (by rw [List.getElem?_map]; simp [e5.1])
  have p1 : w8.cell? ⟨p, 1, none⟩ = some (.int .i64 2) := hp8.at_ (i := 1) (by rw [List.getElem?_map]; simp [e5.2.1])
  have d4 : w8.cell? ⟨d, 4, none⟩ = some (.int .i64 3) := hd.at_ (i := 4) (by rw [List.getElem?_map]; simp [e5.2.2])
  have hv0 := hq8.cell 0 _ hv
  obtain ⟨a, ha, hab, ca⟩ := hS0.out.at_.int (i := 1) (x := 3) rfl
  rw [ha] at hv0
  replace ca : w8.cell? ⟨a.block, a.off + 1, none⟩ = some (.int .i64 3) := by simpa [Addr.add] using ca
  clear k7 hb8 c0 c1 c2
  have r1 : ∀ w' : World, Hid (TBox w1 tb (T1 A c) w') → Calls Try.prog 28 #[.agg #[.slice A 5 c, .slice none 0 0, .int .i64 0], .int .i64 0] w' fun e w2 => e = .returned (.bool true) ∧ Below w'.heap.size w' w2 := fun w' h => by
    have k := root_h (T1 A c) 0 w' (Lib.hid h.out.at_) (by simp)
    rw [e6.1] at k; exact k
  have r2 : ∀ w' : World, Hid (TBox w1 tb (T1 A c) w') → Calls Try.prog 28 #[.agg #[.slice A 5 c, .slice none 0 0, .int .i64 0], .int .i64 1] w' fun e w2 => e = .returned (.bool false) ∧ Below w'.heap.size w' w2 := fun w' h => by
    have k := root_h (T1 A c) 1 w' (Lib.hid h.out.at_) (by simp)
    rw [e6.2.1] at k; exact k
  have r3 : ∀ w' : World, Hid (TBox w1 tb (T1 A c) w') → Calls Try.prog 28 #[.agg #[.slice A 5 c, .slice none 0 0, .int .i64 0], .int .i64 4] w' fun e w2 => e = .returned (.bool true) ∧ Below w'.heap.size w' w2 := fun w' h => by
    have k := root_h (T1 A c) 4 w' (Lib.hid h.out.at_) (by simp)
    rw [e6.2.2] at k; exact k
  obtain ⟨c0, c1, c2⟩ := hT.out.cells
  go_wp2_with (first | (go_at_call 28; (with_reducible refine (r1 _ hT).mono ?_); rintro e w9 ⟨rfl, hb9⟩; replace hb9 := Lib.hid hb9; have hT9 := Lib.hid (hT.out.below hb9.out); obtain ⟨d0, d1, d2⟩ := hT9.out.cells) | (go_at_call 28; (with_reducible refine (r2 _ hT9).mono ?_); rintro e wa ⟨rfl, hba⟩; replace hba := Lib.hid hba; have hTa := Lib.hid (hT9.out.below hba.out); obtain ⟨f0, f1, f2⟩ := hTa.out.cells) | (go_at_call 28; (with_reducible refine (r3 _ hTa).mono ?_); rintro e wb ⟨rfl, hbb⟩; replace hbb := Lib.hid hbb; have hTb := Lib.hid (hTa.out.below hbb.out)))
  go_ret
  exact ⟨rfl, hb1.out.trans (hTb.out.hb.mono hb1.out.size)⟩
end Go.Proofs.Ytcgblbbadbkdgaa
