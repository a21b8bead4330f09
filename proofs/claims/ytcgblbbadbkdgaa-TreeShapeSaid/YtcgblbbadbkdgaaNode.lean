/-
  A node and a tree as cells; contracts of package tree: what is wrong with a node by itself.
-/
import Derived.Test.YtcgblbbadbkdgaaLoad4
namespace Go.Proofs.Ytcgblbbadbkdgaa
open Go.RowKit

/-- A node: its parent's number, its style. -/
structure NodeV where
  p : Int
  s : Style
def nodeE (n : NodeV) : List Value := .int .i64 n.p :: styE n.s
theorem nodeE_len (n : NodeV) : (nodeE n).length = 44 := rfl
/-- A tree: where its nodes lie, and which they are; its advances; the view. -/
structure TreeV where
  na : Option Addr
  nn : Nat
  nc : Nat
  ns : List NodeV
  aa : Option Addr
  an : Nat
  ac : Nat
  av : List Int
  view : Int
def treeE (t : TreeV) : List Value := [.slice t.na t.nn t.nc, .slice t.aa t.an t.ac, .int .i64 t.view]
theorem treeE_len (t : TreeV) : (treeE t).length = 3 := rfl
structure TreeAt (w : World) (t : TreeV) : Prop where
  nodes : Sl nodeE w t.na t.nn t.nc t.ns
  advs : Sl intE w t.aa t.an t.ac t.av
theorem TreeAt.below {w w' : World} {t : TreeV} (h : TreeAt w t) (hb : Below w.heap.size w w') : TreeAt w' t := ⟨h.nodes.below hb, h.advs.below hb⟩

/-- The tree lies boxed in block g, which the call laid; nothing below has turned. -/
structure TBox (w0 : World) (g : Nat) (t : TreeV) (w : World) : Prop where
  at0 : TreeAt w0 t
  box : Box w g (treeE t)
  hb : Below w0.heap.size w0 w
  ge : w0.heap.size ≤ g
theorem TBox.start {w V : World} {t : TreeV} (h : TreeAt w t) (e : w.alloc (.cells #[.slice t.na t.nn t.nc, .slice t.aa t.an t.ac, .int .i64 t.view] 35) = V) : TBox w w.heap.size t V := by
  subst e
  have hb := (Below.refl w.heap.size w).alloc (Nat.le_refl _) (.cells #[.slice t.na t.nn t.nc, .slice t.aa t.an t.ac, .int .i64 t.view] 35)
  exact ⟨h, Box.new w (treeE t) _, hb, Nat.le_refl _⟩
theorem TBox.below {w0 w w' : World} {g : Nat} {t : TreeV} (h : TBox w0 g t w) (hb : Below w.heap.size w w') : TBox w0 g t w' := ⟨h.at0, h.box.below hb, h.hb.trans (hb.mono h.hb.size), h.ge⟩
theorem TBox.at_ {w0 w : World} {g : Nat} {t : TreeV} (h : TBox w0 g t w) : TreeAt w t := h.at0.below h.hb
theorem TBox.cells {w0 w : World} {g : Nat} {t : TreeV} (h : TBox w0 g t w) : w.cell? ⟨g, 0, none⟩ = some (.slice t.na t.nn t.nc) ∧ w.cell? ⟨g, 1, none⟩ = some (.slice t.aa t.an t.ac) ∧ w.cell? ⟨g, 2, none⟩ = some (.int .i64 t.view) :=
  ⟨h.box.cell 0 _ rfl, h.box.cell 1 _ rfl, h.box.cell 2 _ rfl⟩

/-- A style lies in block g, from o on. -/
def AtO (w : World) (g o : Nat) (s : Style) : Prop := g < w.heap.size ∧ ∀ i u, (styE s)[i]? = some u → w.cell? ⟨g, o + i, none⟩ = some u
theorem AtO.below {w w' : World} {g o : Nat} {s : Style} (h : AtO w g o s) (hb : Below w.heap.size w w') : AtO w' g o s :=
  ⟨Nat.lt_of_lt_of_le h.1 hb.size, fun i u hu => (hb.cell (p := ⟨g, o + i, none⟩) h.1).trans (h.2 i u hu)⟩

theorem Holds.node {w : World} {B : Nat} {A : Option Addr} {l : List NodeV} (h : Holds nodeE w B A l) (hB : B ≤ w.heap.size) {i : Nat} {x : NodeV} (hx : l[i]? = some x) :
    ∃ a : Addr, A = some a ∧ a.block < B ∧ w.cell? (a.add (i * 44)) = some (.int .i64 x.p) ∧ AtO w (a.add (i * 44)).block ((a.add (i * 44)).off + 1) x.s := by
  obtain ⟨a, rfl, hl, hc⟩ := h.get nodeE_len hx
  refine ⟨a, rfl, hl, hc 0 _ rfl, by rw [add_block]; omega, fun j u hu => ?_⟩
  have h2 := hc (j + 1) u hu
  have e := add_off a (i * 44) (j + 1) (by omega)
  rw [← e] at h2
  rw [← h2]
  congr 2
  omega

def textK (s : Style) : Bool := s.kind == 3
def looseB (s : Style) : Bool := s.float != 0 || s.clear != 0
def aloneI (s : Style) (d : Int) : Int := if 65536 < s.un then 7 else if 512 < d then 8 else if rightB s = true then 0 else 6
def fitsB (s : Style) (k : Int) (e : Style) : Bool := if k = 1 then textK s == textK e else if k = 2 then !textK s && !looseB s else false

theorem text_h (s : Style) (g o : Nat) (w : World) (h : Hid (AtO w g o s)) : Calls Try.prog 47 #[.pointer (some ⟨g, o, none⟩)] w fun e w' => e = .returned (.bool (textK s)) ∧ w = w' := by
  have c0 := h.out.2 0 _ rfl
  simp only [Nat.add_zero] at c0
  go_enter Try.func47, Try.ntmps47
  go_wp2_with fail
  go_ret
  exact ⟨rfl, rfl⟩

theorem loose_h (s : Style) (g o : Nat) (w : World) (h : Hid (AtO w g o s)) : Calls Try.prog 81 #[.pointer (some ⟨g, o, none⟩)] w fun e w' => e = .returned (.bool (looseB s)) ∧ w = w' := by
  have c0 := h.out.2 2 _ rfl
  have c1 := h.out.2 3 _ rfl
  have hd : Hid (looseB s = (s.float != 0 || s.clear != 0)) := Lib.hid rfl
  cases hf : (s.float != 0)
  all_goals
    go_enter Try.func81, Try.ntmps81
    go_wp2_with fail
    go_ret
    exact ⟨by rw [hd.out, hf]; rfl, rfl⟩

theorem asize_h (x : Int) (w : World) : Calls Try.prog 79 #[.int .i64 x] w fun e w' => e = .returned (.bool (decide (0 ≤ x) && decide (x ≤ 1099511627776))) ∧ w = w' := by
  cases hf : decide (0 ≤ x)
  all_goals
    go_enter Try.func79, Try.ntmps79
    go_wp2_with fail
    go_ret
    exact ⟨by simp, rfl⟩

set_option maxRecDepth 100000 in
theorem fits_h (s e : Style) (k : Int) (g o g2 o2 : Nat) (w : World) (h : Hid (AtO w g o s)) (h2 : Hid (AtO w g2 o2 e)) :
    Calls Try.prog 82 #[.pointer (some ⟨g, o, none⟩), .int .u8 k, .pointer (some ⟨g2, o2, none⟩)] w fun r w' => r = .returned (.bool (fitsB s k e)) ∧ w = w' := by
  have t1 := text_h s g o w h
  have t2 := text_h e g2 o2 w h2
  have l1 := loose_h s g o w h
  have hd : Hid (fitsB s k e = if k = 1 then textK s == textK e else if k = 2 then !textK s && !looseB s else false) := Lib.hid rfl
  rw [hd.out]
  clear h h2 hd
  generalize textK s = a at *
  generalize textK e = b at *
  generalize looseB s = c at *
  by_cases k1 : k = 1
  · subst k1
    go_enter Try.func82, Try.ntmps82
    go_wp2_with (first | (go_at_call 47; refine t1.mono ?_; rintro r w' ⟨rfl, rfl⟩) | (go_at_call 47; refine t2.mono ?_; rintro r w' ⟨rfl, rfl⟩))
    go_ret
    exact ⟨rfl, rfl⟩
  have e1 : (k == 1) = false := by simpa using k1
  by_cases k2 : k = 2
  · subst k2
    cases a
    all_goals
      go_enter Try.func82, Try.ntmps82
      go_wp2_with (first | (go_at_call 47; refine t1.mono ?_; rintro r w' ⟨rfl, rfl⟩) | (go_at_call 81; refine l1.mono ?_; rintro r w' ⟨rfl, rfl⟩))
      go_ret
      exact ⟨rfl, rfl⟩
  have e2 : (k == 2) = false := by simpa using k2
  rw [if_neg k1, if_neg k2]
  clear k1 k2
  go_enter Try.func82, Try.ntmps82
  go_wp2_with fail
  go_ret
  exact ⟨rfl, rfl⟩

/-- The law of the load of a style that lies within a block. -/
theorem wpList_load_styO {w : World} {ops : Array Oper} {rest : List Oper} {o : Oper} {a : Act} {Q : Exit → Act → World → Prop} (hw : Region.wanted o (yielded ops a.tmps) = true) (x : Operand) (ho : o.op = .load 28 x)
    (g f : Nat) (hx : a.eval x = .pointer (some ⟨g, f, none⟩)) (s : Style) (L : Array Value) (hL : Hid ((styE s).toArray = L)) (hA : Hid (AtO w g f s)) (h : wpList Try.prog ops Q rest (a.put o.dst (.agg L)) w) : wpList Try.prog ops Q (o :: rest) a w :=
  wpList_step fun K hK => by
    rw [if_pos hw]
    unfold Oper.wp execOp
    have hl : (loadVar 28 ⟨g, f, none⟩).run Try.prog w = .ok (.agg (styE s).toArray) w :=
      Go.run_loadVar_mid w g f 28 (styE s) _ (fun j v hv => hA.out.2 j v hv) Try.underlying28 rfl (by rw [styE_len]; kernel_rfl)
    simp only [ho, hx, Instr.loadAt, Instr.sureAddr, Sem.run_bind, Sem.run_pure, Result.andThen_ok, hl]
    rw [hL.out]
    exact hK _ _ h

set_option maxRecDepth 100000 in
theorem alone_h (s : Style) (d : Int) (g o : Nat) (w : World) (h : Hid (AtO w g o s)) :
    Calls Try.prog 80 #[.pointer (some ⟨g, o, none⟩), .int .i64 d] w fun e w' => e = .returned (.int .i64 (aloneI s d)) ∧ Below w.heap.size w w' := by
  have c0 := h.out.2 42 _ rfl
  obtain ⟨L, hL⟩ : ∃ L, (styE s).toArray = L := ⟨_, rfl⟩
  replace hL := Lib.hid hL
  have hr := fun w => right_L hL w
  have hd : Hid (aloneI s d = if 65536 < s.un then 7 else if 512 < d then 8 else if rightB s = true then 0 else 6) := Lib.hid rfl
  rw [hd.out]
  clear hd
  by_cases h1 : 65536 < s.un
  · rw [if_pos h1]
    have h1' : (65536 : Int) < (s.un : Int) := by omega
    go_enter Try.func80, Try.ntmps80
    go_wp2_with fail
    go_ret
    exact ⟨rfl, Below.refl _ _⟩
  rw [if_neg h1]
  have h1' : ¬ (65536 : Int) < (s.un : Int) := by omega
  clear h1
  by_cases h2 : 512 < d
  · rw [if_pos h2]
    go_enter Try.func80, Try.ntmps80
    go_wp2_with fail
    go_ret
    exact ⟨rfl, Below.refl _ _⟩
  rw [if_neg h2]
  generalize rightB s = r at *
  cases r
  all_goals
    go_enter Try.func80, Try.ntmps80
    go_wp2_with (refine wpList_load_styO (by rfl) _ rfl g o rfl s L hL h ?_)
    refine (hr _).mono ?_; rintro e w1 ⟨rfl, hb1⟩
    replace hb1 := Lib.hid hb1
    go_wp2_with fail
    go_ret
    exact ⟨rfl, hb1.out⟩
end Go.Proofs.Ytcgblbbadbkdgaa
