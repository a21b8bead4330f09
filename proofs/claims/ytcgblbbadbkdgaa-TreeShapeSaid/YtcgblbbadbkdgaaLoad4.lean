/-
  How a whole style is loaded and stored; what the statements on styles keep: the style in a block of the law's own; contract of vast.
-/
import Derived.Test.YtcgblbbadbkdgaaRight2
import Derived.Test.YtcgblbbadbkdgaaView5
import Derived.Deep.MidRow
import Derived.Deep.WholeRow
import Derived.Deep.QuietTactic
import Derived.BigQuiet
namespace Go.Proofs.Ytcgblbbadbkdgaa
open Go.RowKit

/-- The law of the load of a style that lies in a block. -/
theorem wpList_load_sty {w : World} {ops : Array Oper} {rest : List Oper} {o : Oper} {a : Act} {Q : Exit → Act → World → Prop} (hw : Region.wanted o (yielded ops a.tmps) = true) (x : Operand) (ho : o.op = .load 28 x)
    (g : Nat) (hx : a.eval x = .pointer (some ⟨g, 0, none⟩)) (s : Style) (L : Array Value) (hL : Hid ((styE s).toArray = L)) (hA : Hid (AtS w g s)) (h : wpList Try.prog ops Q rest (a.put o.dst (.agg L)) w) : wpList Try.prog ops Q (o :: rest) a w :=
  wpList_step fun K hK => by
    rw [if_pos hw]
    unfold Oper.wp execOp
    have hl : (loadVar 28 ⟨g, 0, none⟩).run Try.prog w = .ok (.agg (styE s).toArray) w :=
      Go.run_loadVar_mid w g 0 28 (styE s) _ (fun j v hv => by rw [Nat.zero_add]; exact hA.out.2 j v hv) Try.underlying28 rfl (by rw [styE_len]; kernel_rfl)
    simp only [ho, hx, Instr.loadAt, Instr.sureAddr, Sem.run_bind, Sem.run_pure, Result.andThen_ok, hl]
    rw [hL.out]
    exact hK _ _ h
/-- The law of the store of a whole style into the block that was made last. -/
theorem wpList_store_new {w0 : World} {ops : Array Oper} {rest : List Oper} {o : Oper} {a : Act} {Q : Exit → Act → World → Prop} (hgd : o.guard = none) (x y : Operand) (ho : o.op = .store 28 x y) (c L : Array Value)
    (hx : a.eval x = .pointer (some ⟨w0.heap.size, 0, none⟩)) (hy : a.eval y = .agg L) (hc : c.size = 43) (hL : L.size = 43) (h1 : L.all (·.oneCell') = true)
    (h : wpList Try.prog ops Q rest (a.put o.dst undef) (w0.alloc (.cells L 28))) : wpList Try.prog ops Q (o :: rest) a (w0.alloc (.cells c 28)) :=
  wpList_store_row hgd 28 x y ho w0.heap.size L hx hy 28 c (heap_alloc_last w0 _) (by rw [hL]; kernel_rfl) (by rw [hc, hL]) h1 (by rw [World.setRow_alloc_new]; exact h)
/-- The style lies in the block that the law laid first; nothing below has turned. -/
structure SB (W : World) (s : Style) (w : World) : Prop where
  box : Box w W.heap.size (styE s)
  hb : Below W.heap.size W w
theorem SB.new (W : World) (s : Style) (t : TypeId) : SB W s (W.alloc (.cells (styE s).toArray t)) := ⟨Box.new W (styE s) t, (Below.refl _ _).alloc (Nat.le_refl _) _⟩
theorem SB.below {W : World} {s : Style} {w w' : World} (h : SB W s w) (hb : Below w.heap.size w w') : SB W s w' := ⟨h.box.below hb, h.hb.trans (hb.mono h.hb.size)⟩
theorem SB.ats {W : World} {s : Style} {w : World} (h : SB W s w) : Hid (AtS w W.heap.size s) := Lib.hid (AtS.of h.box)
theorem right_L {s : Style} {L : Array Value} (hL : Hid ((styE s).toArray = L)) (w : World) : Calls Try.prog 12 #[.agg L] w fun e w' => e = .returned (.bool (rightB s)) ∧ Below w.heap.size w w' := by
  rw [← hL.out]; exact right_any s w
theorem wpQuiet_load_sty {C : World → Prop} {ops : Array Oper} {rest : List Oper} {o : Oper} {a : Act} {Q : Act → Prop} (hw : Region.wanted o (yielded ops a.tmps) = true) (x : Operand) (ho : o.op = .load 28 x)
    (g : Nat) (hx : a.eval x = .pointer (some ⟨g, 0, none⟩)) (s : Style) (L : Array Value) (hL : Hid ((styE s).toArray = L)) (hA : Hid (∀ w, C w → AtS w g s)) (h : wpQuiet Try.prog ops C Q rest (a.put o.dst (.agg L))) : wpQuiet Try.prog ops C Q (o :: rest) a :=
  wpQuiet_step fun K hK => by
    rw [if_pos hw]
    refine ⟨.agg L, fun w hw' => ?_, hK _ h⟩
    have hl : (loadVar 28 ⟨g, 0, none⟩).run Try.prog w = .ok (.agg (styE s).toArray) w :=
      Go.run_loadVar_mid w g 0 28 (styE s) _ (fun j v hv => by rw [Nat.zero_add]; exact (hA.out w hw').2 j v hv) Try.underlying28 rfl (by rw [styE_len]; kernel_rfl)
    unfold Oper.quietAt execOp
    simp only [ho, hx, Instr.loadAt, Instr.sureAddr, Sem.run_bind, Sem.run_pure, Result.andThen_ok, hl]
    rw [hL.out]
    exact ⟨rfl, rfl⟩
/-- The style lies in block g, which the law laid; nothing below has turned. -/
structure TB (W : World) (g : Nat) (s : Style) (w : World) : Prop where
  box : Box w g (styE s)
  ge : W.heap.size ≤ g
  hb : Below W.heap.size W w
theorem TB.below {W : World} {g : Nat} {s : Style} {w w' : World} (h : TB W g s w) (hb : Below w.heap.size w w') : TB W g s w' := ⟨h.box.below hb, h.ge, h.hb.trans (hb.mono h.hb.size)⟩
theorem TB.ats {W : World} {g : Nat} {s : Style} {w : World} (h : TB W g s w) : Hid (AtS w g s) := Lib.hid (AtS.of h.box)
theorem TB.set {W : World} {g : Nat} {s : Style} {w : World} (h : TB W g s w) (i : Nat) (u : Value) (s' : Style) (e : (styE s).set i u = styE s') (hi : i < 43) : TB W g s' (w.setCell ⟨g, i, none⟩ u) :=
  ⟨by rw [← e]; exact h.box.set i u (by rw [styE_len]; exact hi), h.ge, h.hb.setCell h.ge _⟩
theorem styE_one (s : Style) : (styE s).toArray.all (·.oneCell') = true := by
  refine all_oneCell_toArray fun v hv => ?_
  simp only [styE, List.mem_cons, List.not_mem_nil, or_false] at hv
  rcases hv with rfl | rfl | rfl | rfl | rfl | rfl | rfl | rfl | rfl | rfl | rfl | rfl | rfl | rfl | rfl | rfl | rfl | rfl | rfl | rfl | rfl | rfl | rfl | rfl | rfl | rfl | rfl | rfl | rfl | rfl | rfl | rfl | rfl | rfl | rfl | rfl | rfl | rfl | rfl | rfl | rfl | rfl | rfl <;> rfl
theorem infoU16 : (Try.prog.info? 50).map (fun i => (i.zero, i.size, i.bytes)) = some (some (.int .u16 0), 1, 2) := by kernel_rfl
theorem u16E_one (z : Int) : ∀ u ∈ u16E z, u.oneCell' = true := by intro u hu; simp [u16E] at hu; subst hu; rfl
theorem own_open2 {w : World} {base : Nat} {v : Value} {n : Nat} {l : List Int} (h : w.ownsRow base 50 1 v (0 + n) (([] ++ l).flatMap u16E)) : ∃ (A : Option Addr) (c : Nat), v = .slice A n c ∧ Sl u16E w A n c l ∧ New base A := by
  rw [Nat.zero_add, List.nil_append] at h
  exact Sl.own h u16E_len (by omega)
theorem own_open {w : World} {base : Nat} {v : Value} {n : Nat} {l : List Int} (h : w.ownsRow base 50 1 v (0 + n) (([] ++ l).flatMap u16E)) : ∃ (A : Option Addr) (c : Nat), v = .slice A n c := by
  rw [Nat.zero_add, List.nil_append] at h
  obtain ⟨A, c, e, _, _⟩ := Sl.own h u16E_len (by omega)
  exact ⟨A, c, e⟩

end Go.Proofs.Ytcgblbbadbkdgaa
