/-
  What the statements on styles keep: the style in a block of the law's own; contract of vast.
-/
import Derived.Test.YtjjaeloamogfdaaPut4
namespace Go.Proofs.Ytjjaeloamogfdaa
open Go.RowKit

/-- The style lies in the block that the law laid first; nothing below has turned. -/
structure SB (W : World) (s : Style) (w : World) : Prop where
  box : Box w W.heap.size (styE s)
  hb : Below W.heap.size W w
theorem SB.new (W : World) (s : Style) (t : TypeId) : SB W s (W.alloc (.cells (styE s).toArray t)) := ⟨Box.new W (styE s) t, (Below.refl _ _).alloc (Nat.le_refl _) _⟩
theorem SB.below {W : World} {s : Style} {w w' : World} (h : SB W s w) (hb : Below w.heap.size w w') : SB W s w' := ⟨h.box.below hb, h.hb.trans (hb.mono h.hb.size)⟩
theorem SB.ats {W : World} {s : Style} {w : World} (h : SB W s w) : Hid (AtS w W.heap.size s) := Lib.hid (AtS.of h.box)
theorem SB.put {W : World} {s : Style} {w : World} (h : SB W s w) {i : Nat} (hi : i < 11) (l : LenV) : SB W (s.put i l) ((w.setCell ⟨W.heap.size, offOf i, none⟩ (.int .u8 l.k)).setCell ⟨W.heap.size, offOf i + 1, none⟩ (.int .i64 l.n)) :=
  ⟨put_box h.box hi l, (h.hb.setCell (Nat.le_refl _) _).setCell (Nat.le_refl _) _⟩
/-- Where a length is to be put: the cells as they are, and that they may be written. -/
theorem SB.at_ {W : World} {s : Style} {w : World} (h : SB W s w) {i : Nat} (hi : i < 11) :
    w.cell? ⟨W.heap.size, offOf i, none⟩ = some (.int .u8 (s.len i).k) ∧ w.cell? ⟨W.heap.size, offOf i + 1, none⟩ = some (.int .i64 (s.len i).n) ∧ w.frozen? ⟨W.heap.size, offOf i, none⟩ = false ∧ w.frozen? ⟨W.heap.size, offOf i + 1, none⟩ = false :=
  have := off_lt hi
  ⟨h.box.cell _ _ (off_cells s hi).1, h.box.cell _ _ (off_cells s hi).2, h.box.free _ (by rw [styE_len]; omega), h.box.free _ (by rw [styE_len]; omega)⟩

theorem right_L {s : Style} {L : Array Value} (hL : Hid ((styE s).toArray = L)) (w : World) : Calls Try.prog 10 #[.agg L] w fun e w' => e = .returned (.bool (rightB s)) ∧ Below w.heap.size w w' := by
  rw [← hL.out]; exact right_any s w
/-- Where the statements' list says that the k-th length lies. -/
theorem lens_at {g b k : Nat} {w : World} (hH : Holds (ptrE g) w w.heap.size (some ⟨b, 0, none⟩) offs) (hk : k < 11) : w.cell? ⟨b, k, none⟩ = some (.pointer (some ⟨g, offOf k, none⟩)) := by
  obtain ⟨a, ha, _, hc⟩ := hH.get (ptrE_len g) (offs_at hk)
  obtain rfl := Option.some.inj ha
  have c0 := hc 0 _ rfl
  simpa only [Nat.mul_one, Nat.add_zero, add_zero_] using c0

theorem vast_any (s : Style) (w : World) : Calls Try.prog 8 #[styV s] w fun e w' => e = .returned (.bool (decide (131072 < s.un))) ∧ Below w.heap.size w w' := by
  unfold styV
  obtain ⟨L, hL⟩ : ∃ L, (styE s).toArray = L := ⟨_, rfl⟩
  rw [hL]
  have c0 : (w.alloc (.cells L 28)).cell? ⟨w.heap.size, 42, none⟩ = some (.slice s.ua s.un s.uc) := by rw [← hL]; exact (at_new w s _).2 42 _ rfl
  have hb0 := Lib.hid ((Below.refl w.heap.size w).alloc (Nat.le_refl _) (.cells L 28))
  clear hL
  go_enter Try.func8, Try.ntmps8
  go_wp2
  go_ret
  refine ⟨congrArg (fun b => Ending.returned (.bool b)) (show decide ((131072 : Int) < (s.un : Int)) = decide (131072 < s.un) by rw [Bool.eq_iff_iff]; simp; omega), hb0.out⟩
end Go.Proofs.Ytjjaeloamogfdaa
