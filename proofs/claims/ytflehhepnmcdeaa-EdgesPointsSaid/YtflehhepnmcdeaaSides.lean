/-
  Contracts of package edges: Sides, Across: the sums of sides, cut, and whether one was beyond; nothing below changes.
-/
import Derived.Test.YtflehhepnmcdeaaColumn
namespace Go.Proofs.Ytflehhepnmcdeaa
open Go.RowKit

/-- The sum of one side of all. -/
def sideI (l : List Four) (k : Nat) : Int := (columnI l [(k : Int)]).sum
def sideV (l : List Four) (k i : Nat) : Value := .int .i64 (if i < k then cutI (sideI l i) else 0)
def sideB (l : List Four) (k i : Nat) : Value := .bool (if i < k then farI (sideI l i) else false)

theorem column_ok {l : List Four} {ss : List Int} (h : ∀ r ∈ l, FourOk r) : ∀ z ∈ columnI l ss, I64 z := by
  intro z hz
  unfold columnI at hz
  obtain ⟨r, hr, hz⟩ := List.mem_flatMap.1 hz
  obtain ⟨s, _, rfl⟩ := List.mem_map.1 hz
  have := h r hr
  unfold pick
  split
  · exact this.x
  · split
    · exact this.y
    · split
      · exact this.w
      · exact this.h

/-- What Sides' loop keeps. -/
structure SdInv (w : World) (l : List Four) (k : Nat) (wr : World) : Prop where
  r0 : Box wr w.heap.size [sideV l k 0, sideV l k 1, sideV l k 2, sideV l k 3]
  r1 : Box wr (w.heap.size + 1) [sideB l k 0, sideB l k 1, sideB l k 2, sideB l k 3]
  b0 : Below w.heap.size w wr

theorem sd_start (w : World) (l : List Four) : SdInv w l 0 ((w.alloc (.cells #[.int .i64 0, .int .i64 0, .int .i64 0, .int .i64 0] 24)).alloc (.cells #[.bool false, .bool false, .bool false, .bool false] 49)) := by
  refine ⟨?_, ?_, ((Below.refl _ _).alloc (Nat.le_refl _) _).alloc (by simp) _⟩
  · simpa [sideV] using (Box.new w [.int .i64 0, .int .i64 0, .int .i64 0, .int .i64 0] 24).alloc _
  · simpa [sideB] using Box.new (w.alloc (.cells #[.int .i64 0, .int .i64 0, .int .i64 0, .int .i64 0] 24)) [.bool false, .bool false, .bool false, .bool false] 49

theorem sd_step {w wr w2 : World} {l : List Four} {k : Nat} (h : SdInv w l k wr) (hb : Below wr.heap.size wr w2) (hk : k < 4) :
    SdInv w l (k + 1) ((w2.setCell ⟨w.heap.size, k, none⟩ (.int .i64 (cutI (sideI l k)))).setCell ⟨w.heap.size + 1, k, none⟩ (.bool (farI (sideI l k)))) := by
  have e0 : [sideV l (k + 1) 0, sideV l (k + 1) 1, sideV l (k + 1) 2, sideV l (k + 1) 3] = [sideV l k 0, sideV l k 1, sideV l k 2, sideV l k 3].set k (.int .i64 (cutI (sideI l k))) := by
    rcases (by omega : k = 0 ∨ k = 1 ∨ k = 2 ∨ k = 3) with rfl | rfl | rfl | rfl <;> simp [sideV]
  have e1 : [sideB l (k + 1) 0, sideB l (k + 1) 1, sideB l (k + 1) 2, sideB l (k + 1) 3] = [sideB l k 0, sideB l k 1, sideB l k 2, sideB l k 3].set k (.bool (farI (sideI l k))) := by
    rcases (by omega : k = 0 ∨ k = 1 ∨ k = 2 ∨ k = 3) with rfl | rfl | rfl | rfl <;> simp [sideB]
  refine ⟨?_, ?_, ((h.b0.trans (hb.mono h.b0.size)).setCell (by simp) _).setCell (by simp) _⟩
  · rw [e0]; exact ((h.r0.below hb).set k _ (by simpa using hk)).off (by omega) _ _
  · rw [e1]; exact ((h.r1.below hb).off (by omega) _ _).set k _ (by simpa using hk)

set_option maxRecDepth 100000 in
set_option maxHeartbeats 1600000 in
theorem sides_h (A : Option Addr) (n c : Nat) (l : List Four) (w : World) (h : Hid (Sl fourE w A n c l)) (hok : Hid (∀ r ∈ l, FourOk r)) (hn : n ≤ 10000) :
    Calls Try.prog 11 #[.slice A n c] w fun e w' => e = .returned (.tuple #[.agg #[.int .i64 (cutI (sideI l 0)), .int .i64 (cutI (sideI l 1)), .int .i64 (cutI (sideI l 2)), .int .i64 (cutI (sideI l 3))], .bool (farI (sideI l 0) || farI (sideI l 1) || farI (sideI l 2) || farI (sideI l 3))]) ∧ Below w.heap.size w w' := by
  have hst := Lib.hid (sd_start w l)
  go_enter Try.func11, Try.ntmps11
  go_wp2_with fail
  go_loopw [6] (fun i wr => ∃ k : Nat, k ≤ 4 ∧ i = .int .i64 k ∧ Hid (SdInv w l k wr)) (fun i _ => 4 - (intOf i).toNat)
  case atStart => exact ⟨0, Nat.zero_le _, rfl, hst⟩
  case round =>
    obtain ⟨k, hk, rfl, hinv⟩ := hrel
    by_cases hlt : k < 4
    · have hS := Lib.hid (h.out.below hinv.out.b0)
      have hi1 : (0 : Int) ≤ (k : Int) := by omega
      have hi2 : (k : Int) < 4 := by omega
      have hsd := hinv.out.r0.lt
      go_wp2_with fail
      generalize hW : World.alloc wr _ = W1
      obtain ⟨hL, hb1⟩ : Sl intE W1 (some ⟨wr.heap.size, 0, none⟩) 1 1 [(k : Int)] ∧ Below wr.heap.size wr W1 := by
        subst hW
        exact ⟨Sl.lit wr [(k : Int)] _, (Below.refl _ _).alloc (Nat.le_refl _) _⟩
      clear hW
      refine (column_any A _ n c 1 1 l [(k : Int)] W1 (hS.out.below hb1) hL (by intro s hs; simp at hs; omega) hn (by omega)).mono ?_
      rintro e w2 ⟨E, c', rfl, hE, hb2, -⟩
      have hlen : Hid ((columnI l [(k : Int)]).length ≤ 1000000) := Lib.hid (by rw [columnI_len, ← h.out.len]; simp; omega)
      have hI := Lib.hid (hE.at_.ints (column_ok hok.out))
      have hb3 := Lib.hid (hb1.trans (hb2.mono hb1.size))
      clear hL hE hb1 hb2 hS
      have cs := sum_any E c' (columnI l [(k : Int)]).length (columnI l [(k : Int)]) w2 hI.out (Lib.hid rfl) hlen.out
      rw [show (columnI l [(k : Int)]).sum = sideI l k from rfl] at cs
      have cs := Lib.hid cs
      generalize (columnI l [(k : Int)]).length = q at *
      go_wp2_with fail
      refine cs.out.mono ?_; rintro e w4 ⟨rfl, hq4⟩
      have hb4 := Lib.hid (hb3.out.trans (hq4.1.mono hb3.out.size))
      have hnx := Lib.hid (sd_step hinv.out hb4.out hlt)
      have d0 := (hinv.out.r0.below hb4.out)
      have d1 := (hinv.out.r1.below hb4.out)
      obtain ⟨o0, c0⟩ : ∃ u, w4.cell? ⟨w.heap.size, k, none⟩ = some u := ⟨_, d0.cell k _ (List.getElem?_eq_getElem (by simpa using hlt))⟩
      obtain ⟨o1, c1⟩ : ∃ u, w4.cell? ⟨w.heap.size + 1, k, none⟩ = some u := ⟨_, d1.cell k _ (List.getElem?_eq_getElem (by simpa using hlt))⟩
      have f0 := d0.free k (by simpa using hlt)
      have f1 := d1.free k (by simpa using hlt)
      clear cs hI hlen hq4 d0 d1 hb3 hb4 hsd
      go_wp2_with fail
      go_roundw
      case rel => exact ⟨k + 1, by omega, by go_num, hnx⟩
      case measure => simp [intOf]; omega
    · have hk4 : k = 4 := by omega
      subst hk4
      have h0 : Box wr w.heap.size [.int .i64 (cutI (sideI l 0)), .int .i64 (cutI (sideI l 1)), .int .i64 (cutI (sideI l 2)), .int .i64 (cutI (sideI l 3))] := by simpa [sideV] using hinv.out.r0
      have h1 : Box wr (w.heap.size + 1) [.bool (farI (sideI l 0)), .bool (farI (sideI l 1)), .bool (farI (sideI l 2)), .bool (farI (sideI l 3))] := by simpa [sideB] using hinv.out.r1
      have hb0 := Lib.hid hinv.out.b0
      have p0 := h0.four
      have p1 := h1.four
      have f0 := h0.four_free
      have hz := four_bools0
      have heq := four_eq
      clear hinv hst
      go_wp2_with fail
      go_region
      go_wp2_with fail
      generalize hW5 : World.drew (World.setCell (World.setCell (World.setCell (World.setCell wr _ _) _ _) _ _) _ _) = W5
      obtain ⟨k3, hq6⟩ : Box W5 w.heap.size [.int .i64 (cutI (sideI l 0)), .int .i64 (cutI (sideI l 1)), .int .i64 (cutI (sideI l 2)), .int .i64 (cutI (sideI l 3))] ∧ Below w.heap.size w W5 := by
        subst hW5
        exact ⟨((((h0.set 0 _ (by simp)).set 1 _ (by simp)).set 2 _ (by simp)).set 3 _ (by simp)).drew, ((((hb0.out.setCell (by simp) _).setCell (by simp) _).setCell (by simp) _).setCell (by simp) _).drew⟩
      obtain ⟨q0, q1, q2, q3⟩ := k3.four
      clear hW5 p0 p1 f0 h0 h1
      exact bodyPost_ret (v := .tuple #[.agg #[.int .i64 (cutI (sideI l 0)), .int .i64 (cutI (sideI l 1)), .int .i64 (cutI (sideI l 2)), .int .i64 (cutI (sideI l 3))], .bool (farI (sideI l 0) || farI (sideI l 1) || farI (sideI l 2) || farI (sideI l 3))]) (by simp [results, Try.results11, go_sem, q0, q1, q2, q3]) rfl ⟨rfl, hq6⟩

theorem sides_any (A : Option Addr) (n c : Nat) (l : List Four) (w : World) (h : Sl fourE w A n c l) (hok : ∀ r ∈ l, FourOk r) (hn : n ≤ 10000) :
    Calls Try.prog 11 #[.slice A n c] w fun e w' => e = .returned (.tuple #[.agg #[.int .i64 (cutI (sideI l 0)), .int .i64 (cutI (sideI l 1)), .int .i64 (cutI (sideI l 2)), .int .i64 (cutI (sideI l 3))], .bool (farI (sideI l 0) || farI (sideI l 1) || farI (sideI l 2) || farI (sideI l 3))]) ∧ Below w.heap.size w w' :=
  sides_h A n c l w (Lib.hid h) (Lib.hid hok) hn

/-- The sums across and down. -/
def acrossI (l : List Four) : Int := (columnI l [3, 1]).sum
def downI (l : List Four) : Int := (columnI l [0, 2]).sum

theorem across_box (w : World) (a b : Value) (t : TypeId) : Box (w.alloc (.cells #[a, b] t)) w.heap.size [a, b] := Box.new w [a, b] t

set_option maxRecDepth 100000 in
set_option maxHeartbeats 1600000 in
theorem across_h (A : Option Addr) (n c : Nat) (l : List Four) (w : World) (h : Hid (Sl fourE w A n c l)) (hok : Hid (∀ r ∈ l, FourOk r)) (hn : n ≤ 10000) :
    Calls Try.prog 13 #[.slice A n c] w fun e w' => e = .returned (.tuple #[.int .i64 (cutI (acrossI l)), .int .i64 (cutI (downI l)), .bool (farI (acrossI l) || farI (downI l))]) ∧ Below w.heap.size w w' := by
  have hlen1 : Hid ((columnI l [3, 1]).length ≤ 1000000) := Lib.hid (by rw [columnI_len, ← h.out.len]; simp; omega)
  have hlen2 : Hid ((columnI l [0, 2]).length ≤ 1000000) := Lib.hid (by rw [columnI_len, ← h.out.len]; simp; omega)
  go_enter Try.func13, Try.ntmps13
  go_wp2_with fail
  generalize hW : World.alloc (World.alloc w _) _ = W1
  obtain ⟨hL, hb1, d5⟩ : Sl intE W1 (some ⟨w.heap.size + 1, 0, none⟩) 2 2 [3, 1] ∧ Below w.heap.size w W1 ∧ Box W1 w.heap.size [.bool false, .bool false] := by
    subst hW
    exact ⟨by simpa [intE] using Sl.lit (f := intE) (w.alloc (.cells #[.bool false, .bool false] 55)) [3, 1] 3, ((Below.refl _ _).alloc (Nat.le_refl _) _).alloc (by simp) _, (across_box w _ _ _).alloc _⟩
  clear hW
  refine (column_any A _ n c 2 2 l [3, 1] W1 (h.out.below hb1) hL (by intro s hs; simp at hs; omega) hn (by omega)).mono ?_
  rintro e w2 ⟨E, c', rfl, hE, hb2, -⟩
  have hI := hE.at_.ints (column_ok hok.out)
  have cs := sum_any E c' (columnI l [3, 1]).length (columnI l [3, 1]) w2 hI (Lib.hid rfl) hlen1.out
  rw [show (columnI l [3, 1]).sum = acrossI l from rfl] at cs
  have cs := Lib.hid cs
  have hb3 := Lib.hid (hb1.trans (hb2.mono hb1.size))
  have d5 := d5.below hb2
  clear hL hE hb1 hb2 hI
  generalize (columnI l [3, 1]).length = q at *
  go_wp2_with fail
  refine cs.out.mono ?_; rintro e w4 ⟨rfl, hq4⟩
  have hb4 := Lib.hid (hb3.out.trans (hq4.1.mono hb3.out.size))
  have d5 := d5.below hq4.1
  have c0 := d5.cell 0 _ rfl
  have c1 := d5.cell 1 _ rfl
  have f0 := d5.free 0 (by simp)
  have f1 := d5.free 1 (by simp)
  clear cs hq4 hb3
  go_wp2_with fail
  generalize hV : World.setCell w4 _ _ = V
  have es : w4.heap.size = V.heap.size := by rw [← hV]; simp [World.setCell]
  obtain ⟨e5, hbv⟩ : Box V w.heap.size [.bool (farI (acrossI l)), .bool false] ∧ Below w.heap.size w V := by
    subst hV
    exact ⟨d5.set 0 _ (by simp), hb4.out.setCell (by simp) _⟩
  rw [es]
  clear hV es d5 c0 c1 f0 f1 hb4
  generalize hW : World.alloc V _ = W2
  obtain ⟨hL, hb1⟩ : Sl intE W2 (some ⟨V.heap.size, 0, none⟩) 2 2 [0, 2] ∧ Below V.heap.size V W2 := by
    subst hW
    exact ⟨by simpa [intE] using Sl.lit (f := intE) V [0, 2] 3, (Below.refl _ _).alloc (Nat.le_refl _) _⟩
  clear hW
  have hb2 := hbv.trans (hb1.mono hbv.size)
  have e5 := e5.below hb1
  refine (column_any A _ n c 2 2 l [0, 2] W2 (h.out.below hb2) hL (by intro s hs; simp at hs; omega) hn (by omega)).mono ?_
  rintro e w5 ⟨E2, c2, rfl, hE, hb3, -⟩
  have hI := hE.at_.ints (column_ok hok.out)
  have cs := sum_any E2 c2 (columnI l [0, 2]).length (columnI l [0, 2]) w5 hI (Lib.hid rfl) hlen2.out
  rw [show (columnI l [0, 2]).sum = downI l from rfl] at cs
  have cs := Lib.hid cs
  have hb6 := Lib.hid (hb2.trans (hb3.mono hb2.size))
  have e5 := e5.below hb3
  clear hL hE hb1 hb2 hb3 hI hbv
  generalize (columnI l [0, 2]).length = q2 at *
  go_wp2_with fail
  refine cs.out.mono ?_; rintro e w6 ⟨rfl, hq4⟩
  have hb7 := Lib.hid (hb6.out.trans (hq4.1.mono hb6.out.size))
  have e5 := e5.below hq4.1
  have c0 := e5.cell 0 _ rfl
  have c1 := e5.cell 1 _ rfl
  have f0 := e5.free 0 (by simp)
  have f1 := e5.free 1 (by simp)
  have hz : ∀ w, (Instr.build 55 #[]).run Try.prog w = .ok (.agg #[.bool false, .bool false]) w := fun w => by kernel_rfl
  have heq := two_eq
  clear cs hq4 hb6
  go_wp2_with fail
  go_quiet (fail)
  go_wp2_with fail
  go_ret3
  exact ⟨rfl, bl_drewN (hb7.out.setCell (by simp) _) nq⟩

theorem across_any (A : Option Addr) (n c : Nat) (l : List Four) (w : World) (h : Sl fourE w A n c l) (hok : ∀ r ∈ l, FourOk r) (hn : n ≤ 10000) :
    Calls Try.prog 13 #[.slice A n c] w fun e w' => e = .returned (.tuple #[.int .i64 (cutI (acrossI l)), .int .i64 (cutI (downI l)), .bool (farI (acrossI l) || farI (downI l))]) ∧ Below w.heap.size w w' :=
  across_h A n c l w (Lib.hid h) (Lib.hid hok) hn
end Go.Proofs.Ytflehhepnmcdeaa
