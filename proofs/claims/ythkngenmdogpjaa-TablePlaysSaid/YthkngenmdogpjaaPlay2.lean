/-
  A table and the document's table, played side by side.
-/
import Derived.Test.YthkngenmdogpjaaPlay
import Derived.Test.YthkngenmdogpjaaLater
namespace Go.Proofs.Ythkngenmdogpjaa
open Go.RowKit

theorem putP_any (tb cb vb : Nat) (l : List (Option Pair)) (i : Int) (x : Pair) (w : World) (h : Hid (Tab pairE pair0 w tb cb vb l)) :
    Calls Try.prog 11 #[.pointer (some ⟨tb, 0, none⟩), .int .i64 i, .agg #[.int .i64 x.a, .string x.b]] w fun e w' => e = .returned (.int .i64 (putE (slot l i))) ∧ Tab pairE pair0 w' tb cb vb (putL l i x) ∧ But [cb, vb] w w' := by
  rcases slot_cases l i with ⟨e, _⟩ | ⟨k, o, rfl, hk, e, hl⟩
  · refine (putP_no tb cb vb l i x w h (.inl e)).mono ?_
    rintro e' w' ⟨rfl, hb⟩
    refine ⟨rfl, ?_, .of hb⟩
    unfold putL
    rw [e]
    exact h.out.below hb
  · cases o with
    | some y =>
      refine (putP_no tb cb vb l k x w h (.inr ⟨y, e⟩)).mono ?_
      rintro e' w' ⟨rfl, hb⟩
      refine ⟨rfl, ?_, .of hb⟩
      unfold putL
      rw [e]
      exact h.out.below hb
    | none =>
      refine (putP_yes tb cb vb l k x w h (Lib.hid hk) (Lib.hid hl)).mono ?_
      rintro e' w' ⟨rfl, hT, hb⟩
      refine ⟨by rw [e]; rfl, ?_, hb⟩
      unfold putL
      rw [e]
      exact hT

/-- Both tables: what the one holds, what the other holds. -/
structure PS (W w : World) (tb cb vb rb rc : Nat) (T R : List (Option Pair)) : Prop where
  tab : Tab pairE pair0 w tb cb vb T
  ref : Ref w rb rc R
  bl : Below W.heap.size W w
  t0 : W.heap.size ≤ tb
  c0 : W.heap.size ≤ cb
  v0 : W.heap.size ≤ vb
  r0 : W.heap.size ≤ rb
  s0 : W.heap.size ≤ rc
  ct : rb ≠ cb ∧ rb ≠ vb
  cc : rc ≠ tb ∧ rc ≠ cb ∧ rc ≠ vb
section
variable {W w w' : World} {tb cb vb rb rc : Nat} {T R T' R' : List (Option Pair)}
theorem PS.below (h : PS W w tb cb vb rb rc T R) (hb : Below w.heap.size w w') : PS W w' tb cb vb rb rc T R :=
  ⟨h.tab.below hb, h.ref.below hb, h.bl.trans (hb.mono h.bl.size), h.t0, h.c0, h.v0, h.r0, h.s0, h.ct, h.cc⟩
theorem PS.but (h : PS W w tb cb vb rb rc T R) {g : Nat} (hb : But [g] w w') (hg : W.heap.size ≤ g) (h1 : g ≠ tb ∧ g ≠ cb ∧ g ≠ vb ∧ g ≠ rb ∧ g ≠ rc) : PS W w' tb cb vb rb rc T R := by
  obtain ⟨h1, h2, h3, h4, h5⟩ := h1
  exact ⟨h.tab.but hb (by simp; exact Ne.symm h1) (by simp; exact Ne.symm h2) (by simp; exact Ne.symm h3), h.ref.but hb (by simp; exact Ne.symm h4) (by simp; exact Ne.symm h5), below_but h.bl hb h.bl.size (by simp; exact hg), h.t0, h.c0, h.v0, h.r0, h.s0, h.ct, h.cc⟩
theorem PS.put (h : PS W w tb cb vb rb rc T R) (ht : Tab pairE pair0 w' tb cb vb T') (hb : But [cb, vb] w w') : PS W w' tb cb vb rb rc T' R :=
  ⟨ht, h.ref.but hb (by simp; exact h.ct) (by simp; exact h.cc.2), below_but h.bl hb h.bl.size (by simp; exact ⟨h.c0, h.v0⟩), h.t0, h.c0, h.v0, h.r0, h.s0, h.ct, h.cc⟩
theorem PS.rput (h : PS W w tb cb vb rb rc T R) (hr : Ref w' rb rc R') (hb : But [rc] w w') : PS W w' tb cb vb rb rc T R' :=
  ⟨h.tab.but hb (by simp; exact Ne.symm h.cc.1) (by simp; exact Ne.symm h.cc.2.1) (by simp; exact Ne.symm h.cc.2.2), hr, below_but h.bl hb h.bl.size (by simp; exact h.s0), h.t0, h.c0, h.v0, h.r0, h.s0, h.ct, h.cc⟩
theorem PS.start {w1 w2 : World} {n : Nat} (h : NewInv pairE pair0 W n n tb cb vb w1) (hr : Ref w2 rb rc (List.replicate n none)) (hb : Below w1.heap.size w1 w2) (h1 : w1.heap.size ≤ rb) (h2 : w1.heap.size ≤ rc) : PS W w2 tb cb vb rb rc (List.replicate n none) (List.replicate n none) := by
  have hT := h.done
  have := hT.head.lt
  have := hT.cells.lt
  have := hT.vals.lt
  have := h.bl.size
  exact ⟨hT.below hb, hr, h.bl.trans (hb.mono h.bl.size), h.t0, h.c0, h.v0, by omega, by omega, ⟨by omega, by omega⟩, by omega, by omega, by omega⟩
end

/-- The cells of a call in the list, in whatever world behind the law's start. -/
theorem op_cells {W w : World} {a : Addr} {n c : Nat} {l : List TOp} (h : Sl opE W (some a) n c l) (hb : Below W.heap.size W w) {i : Nat} {x : TOp} (hx : l[i]? = some x) :
    w.cell? (a.add (i * 4)) = some (.bool x.put) ∧ w.cell? ⟨(a.add (i * 4)).block, (a.add (i * 4)).off + 1, none⟩ = some (.int .i64 x.i) ∧
      w.cell? ⟨(a.add (i * 4)).block, (a.add (i * 4)).off + 2, none⟩ = some (.int .i64 x.v.a) ∧ w.cell? ⟨(a.add (i * 4)).block, (a.add (i * 4)).off + 2 + 1, none⟩ = some (.string x.v.b) := by
  obtain ⟨a', ea, _, h0, h1, h2, h3⟩ := (h.at_.keep hb).op hx
  obtain rfl := Option.some.inj ea
  exact ⟨h0, h1, h2, h3⟩

/-- What the statement's last loop turns: a list's own block, of which each pair's first part is a number. -/
structure Row (w : World) (g n : Nat) (cs : List Value) : Prop where
  box : Box w g cs
  num : ∀ i, i < n → ∃ z, cs[i * 2]? = some (.int .i64 z)
theorem Row.set {w : World} {g n : Nat} {cs : List Value} (h : Row w g n cs) {i : Nat} (hi : i < n) (z : Int) : Row (w.setCell ⟨g, i * 2, none⟩ (.int .i64 z)) g n (cs.set (i * 2) (.int .i64 z)) := by
  obtain ⟨y, hy⟩ := h.num i hi
  have hl := (List.getElem?_eq_some_iff.1 hy).1
  refine ⟨h.box.set (i * 2) _ hl, fun j hj => ?_⟩
  by_cases e : i = j
  · subst e
    exact ⟨z, by rw [List.getElem?_set_self hl]⟩
  · obtain ⟨x, hx⟩ := h.num j hj
    exact ⟨x, by rw [List.getElem?_set_ne (by omega)]; exact hx⟩
theorem OwnB.row {w : World} {A : Option Addr} {l : List Pair} (h : OwnB pairE w A l) (hl : 0 < l.length) : ∃ g cs, A = some ⟨g, 0, none⟩ ∧ Row w g l.length cs := by
  obtain ⟨g, cs, e, hb, hc⟩ := h hl
  refine ⟨g, cs, e, hb, fun i hi => ?_⟩
  obtain ⟨x, hx⟩ : ∃ x, l[i]? = some x := ⟨_, List.getElem?_eq_getElem hi⟩
  have h1 := flat_get pairE_len l i 0 x (.int .i64 x.a) hx rfl
  exact ⟨x.a, hc _ _ h1⟩

/-- What the statement's last loop keeps: the tables, the document's list, and the list that is turned. -/
structure Turn (W w : World) (tb cb vb rb rc n : Nat) (T : List (Option Pair)) (E E2 : Option Addr) (c2 : Nat) : Prop where
  ps : PS W w tb cb vb rb rc T T
  y : Sl pairE w E2 n c2 (allVP T)
  row : 0 < n → ∃ g cs, E = some ⟨g, 0, none⟩ ∧ Row w g n cs ∧ W.heap.size ≤ g ∧ (g ≠ tb ∧ g ≠ cb ∧ g ≠ vb ∧ g ≠ rb ∧ g ≠ rc) ∧ ∀ a, E2 = some a → a.block ≠ g
theorem Turn.start {W w w1 w2 : World} {tb cb vb rb rc n c2 : Nat} {T : List (Option Pair)} {E E2 : Option Addr} (h : PS W w tb cb vb rb rc T T) (hl : (allVP T).length = n) (h1 : Below w.heap.size w w1) (hN : New w.heap.size E) (hO : OwnB pairE w1 E (allVP T))
    (h2 : Below w1.heap.size w1 w2) (hN2 : New w1.heap.size E2) (hy : Sl pairE w2 E2 n c2 (allVP T)) : Turn W w2 tb cb vb rb rc n T E E2 c2 := by
  refine ⟨(h.below h1).below h2, hy, fun hn => ?_⟩
  obtain ⟨g, cs, e, hr⟩ := hO.row (by omega)
  rw [hl] at hr
  have hg := hN _ e
  have hg2 := hr.box.lt
  have := h.tab.head.lt
  have := h.tab.cells.lt
  have := h.tab.vals.lt
  have := h.ref.head.lt
  have := h.ref.cells.lt
  have := h.bl.size
  simp only at hg
  refine ⟨g, cs, e, ⟨hr.box.below h2, hr.num⟩, by omega, ⟨by omega, by omega, by omega, by omega, by omega⟩, fun a ha => ?_⟩
  have := hN2 a ha
  omega
theorem Turn.set {W w : World} {tb cb vb rb rc n c2 : Nat} {T : List (Option Pair)} {g : Nat} {E2 : Option Addr} (h : Turn W w tb cb vb rb rc n T (some ⟨g, 0, none⟩) E2 c2) {i : Nat} (hi : i < n) (z : Int) : Turn W (w.setCell ⟨g, i * 2, none⟩ (.int .i64 z)) tb cb vb rb rc n T (some ⟨g, 0, none⟩) E2 c2 := by
  obtain ⟨g', cs, e, hr, h1, h2, h3⟩ := h.row (by omega)
  obtain rfl : g = g' := by injection e with e; injection e
  have hb := (But.refl [g] w).set g (i * 2) (.inl (by simp)) (.int .i64 z)
  exact ⟨h.ps.but hb h1 h2, h.y.but hb (fun a ha => by simp; exact h3 a ha), fun _ => ⟨g, _, rfl, hr.set hi z, h1, h2, h3⟩⟩
end Go.Proofs.Ythkngenmdogpjaa
