/-
  A style one of whose lengths is put anew: as cells; when it is right. How a whole style is loaded.
-/
import Derived.Test.YtjjaeloamogfdaaLens4
import Derived.Test.YtjjaeloamogfdaaRight2
import Derived.Deep.MidRow
import Derived.Deep.WholeRow
namespace Go.Proofs.Ytjjaeloamogfdaa
open Go.RowKit

/-- The style with another length, by its number in the statements' list. -/
def Style.put (s : Style) (i : Nat) (l : LenV) : Style :=
  match i with
  | 0 => { s with w := l }
  | 1 => { s with h := l }
  | 2 => { s with minW := l }
  | 3 => { s with maxW := l }
  | 4 => { s with minH := l }
  | 5 => { s with maxH := l }
  | 6 => { s with basis := l }
  | 7 => { s with m0 := l }
  | 8 => { s with m1 := l }
  | 9 => { s with m2 := l }
  | _ => { s with m3 := l }
def Style.len (s : Style) (i : Nat) : LenV :=
  match i with
  | 0 => s.w
  | 1 => s.h
  | 2 => s.minW
  | 3 => s.maxW
  | 4 => s.minH
  | 5 => s.maxH
  | 6 => s.basis
  | 7 => s.m0
  | 8 => s.m1
  | 9 => s.m2
  | _ => s.m3
def offOf (i : Nat) : Nat := offs.getD i 0
theorem offs_at {i : Nat} (h : i < 11) : offs[i]? = some (offOf i) := by
  match i, h with
  | 0, _ | 1, _ | 2, _ | 3, _ | 4, _ | 5, _ | 6, _ | 7, _ | 8, _ | 9, _ | 10, _ => rfl
theorem put_cells (s : Style) {i : Nat} (h : i < 11) (l : LenV) : styE (s.put i l) = ((styE s).set (offOf i) (.int .u8 l.k)).set (offOf i + 1) (.int .i64 l.n) := by
  match i, h with
  | 0, _ | 1, _ | 2, _ | 3, _ | 4, _ | 5, _ | 6, _ | 7, _ | 8, _ | 9, _ | 10, _ => rfl
theorem off_cells (s : Style) {i : Nat} (h : i < 11) : (styE s)[offOf i]? = some (.int .u8 (s.len i).k) ∧ (styE s)[offOf i + 1]? = some (.int .i64 (s.len i).n) := by
  match i, h with
  | 0, _ | 1, _ | 2, _ | 3, _ | 4, _ | 5, _ | 6, _ | 7, _ | 8, _ | 9, _ | 10, _ => exact ⟨rfl, rfl⟩
theorem off_lt {i : Nat} (h : i < 11) : offOf i + 1 < 43 := by
  match i, h with
  | 0, _ | 1, _ | 2, _ | 3, _ | 4, _ | 5, _ | 6, _ | 7, _ | 8, _ | 9, _ | 10, _ => decide
theorem put_kind (s : Style) (i : Nat) (l : LenV) : (s.put i l).kind = s.kind := by unfold Style.put; split <;> rfl
theorem put_un (s : Style) (i : Nat) (l : LenV) : (s.put i l).un = s.un := by unfold Style.put; split <;> rfl
theorem put_put (s : Style) {i : Nat} (h : i < 11) (l m : LenV) : (s.put i l).put i m = s.put i m := by
  match i, h with
  | 0, _ | 1, _ | 2, _ | 3, _ | 4, _ | 5, _ | 6, _ | 7, _ | 8, _ | 9, _ | 10, _ => rfl
theorem put_box {w : World} {g : Nat} {s : Style} (hb : Box w g (styE s)) {i : Nat} (h : i < 11) (l : LenV) : Box ((w.setCell ⟨g, offOf i, none⟩ (.int .u8 l.k)).setCell ⟨g, offOf i + 1, none⟩ (.int .i64 l.n)) g (styE (s.put i l)) := by
  rw [put_cells s h l]
  have := off_lt h
  exact (hb.set _ _ (by rw [styE_len]; omega)).set _ _ (by simp [styE_len]; omega)

/-- What the i-th length may be in a box. -/
def lenRule (i : Nat) (l : LenV) : Bool :=
  match i with
  | 0 | 2 | 3 | 6 => wideB l
  | 1 | 4 | 5 => highB l
  | _ => marginB l
def ruleOf (i : Nat) : Nat :=
  match i with
  | 0 | 2 | 3 | 6 => 2
  | 1 | 4 | 5 => 3
  | _ => 4
def textOf (i : Nat) : Nat := if i < 7 then 14 else 15
theorem rule_put (s : Style) {i : Nat} (h : i < 11) (l : LenV) (hr : rule (s.put i l) (ruleOf i) = true) : lenRule i l = true := by
  match i, h, hr with
  | 0, _, hr | 1, _, hr | 2, _, hr | 3, _, hr | 4, _, hr | 5, _, hr | 6, _, hr =>
    simp only [ruleOf, Style.put, rule, List.all_cons, List.all_nil, Bool.and_eq_true] at hr
    simp only [lenRule]
    simp [hr]
  | 7, _, hr | 8, _, hr | 9, _, hr | 10, _, hr =>
    simp only [ruleOf, Style.put, rule, Style.margins, List.all_cons, List.all_nil, Bool.and_eq_true] at hr
    simp only [lenRule]
    simp [hr]
theorem text_put (s : Style) {i : Nat} (h : i < 11) (l : LenV) (hr : rule (s.put i l) (textOf i) = true) : zeroLen l = true := by
  match i, h, hr with
  | 0, _, hr | 1, _, hr | 2, _, hr | 3, _, hr | 4, _, hr | 5, _, hr | 6, _, hr =>
    simp [textOf, Style.put, rule] at hr
    simp [hr]
  | 7, _, hr | 8, _, hr | 9, _, hr | 10, _, hr =>
    simp [textOf, Style.put, rule, Style.margins] at hr
    simp [hr]
theorem rule_zero (s : Style) {i : Nat} (h : i < 11) (j : Nat) (hr : rule s j = true) : rule (s.put i ⟨0, 0⟩) j = true := by
  have z1 : wideB ⟨0, 0⟩ = true := by decide
  have z2 : highB ⟨0, 0⟩ = true := by decide
  have z3 : marginB ⟨0, 0⟩ = true := by decide
  have z4 : zeroLen ⟨0, 0⟩ = true := by decide
  match i, h with
  | 0, _ | 1, _ | 2, _ | 3, _ | 4, _ | 5, _ | 6, _ | 7, _ | 8, _ | 9, _ | 10, _ =>
    match j, hr with
    | 0, hr | 1, hr | 5, hr | 6, hr | 7, hr | 8, hr | 9, hr | 10, hr | 11, hr | 12, hr | 13, hr | j + 16, hr => exact hr
    | 2, hr | 3, hr | 4, hr | 14, hr | 15, hr =>
      simp only [rule, Style.put, Style.margins, Style.borders, Style.paddings, List.all_cons, List.all_nil, Bool.and_eq_true, and_true] at hr ⊢
      simp [hr, z1, z2, z3, z4]
theorem right_zero (s : Style) {i : Nat} (h : i < 11) (hr : rightB s = true) : rightB (s.put i ⟨0, 0⟩) = true := by
  unfold rightB at hr ⊢
  rw [put_kind]
  split at hr
  · rw [if_pos (by assumption)]
    unfold boxB at hr ⊢
    rw [List.all_eq_true] at hr ⊢
    exact fun j hj => rule_zero s h j (hr j hj)
  · rw [if_neg (by assumption)]
    split at hr
    · rw [if_pos (by assumption)]
      unfold textB at hr ⊢
      rw [List.all_eq_true] at hr ⊢
      exact fun j hj => rule_zero s h j (hr j hj)
    · cases hr
theorem right_put (s : Style) {i : Nat} (h : i < 11) (l : LenV) (hl : zeroLen l = false) (hr : rightB (s.put i l) = true) : lenRule i l = true := by
  unfold rightB at hr
  split at hr
  · unfold boxB at hr
    rw [List.all_eq_true] at hr
    exact rule_put s h l (hr _ (by rw [List.mem_range]; unfold ruleOf; split <;> omega))
  · split at hr
    · unfold textB at hr
      rw [List.all_eq_true] at hr
      have := text_put s h l (hr _ (by unfold textOf; split <;> simp))
      rw [hl] at this
      cases this
    · cases hr
/-- No length of an unknown kind may be. -/
theorem right_odd (s : Style) {i : Nat} (h : i < 11) (q : Int) (hq : 3 ≤ q) : rightB (s.put i ⟨q, 0⟩) = false := by
  rw [← Bool.not_eq_true]
  intro hr
  have h1 := right_put s h ⟨q, 0⟩ (by unfold zeroLen; simp; omega) hr
  have h2 : ∀ a b, mayB ⟨q, 0⟩ a b = false := fun a b => by unfold mayB; simp only; rw [if_neg (by omega), if_neg (by omega), if_neg (by omega)]
  unfold lenRule wideB highB marginB wideB at h1
  split at h1 <;> simp [h2] at h1
/-- Of a number of units: what may be. -/
theorem right_px (s : Style) {i : Nat} (h : i < 11) (n : Int) (hr : rightB (s.put i ⟨1, n⟩) = true) : -1099511627776 ≤ n ∧ n ≤ 1099511627776 ∧ (0 ≤ n ∨ 6 < i) := by
  have h1 := right_put s h ⟨1, n⟩ (by unfold zeroLen; simp) hr
  have h2 : ∀ a b, mayB ⟨1, n⟩ a b = betweenB n a 1099511627776 := fun a b => by unfold mayB; simp
  clear hr
  match i, h, h1 with
  | 0, _, h1 | 1, _, h1 | 2, _, h1 | 3, _, h1 | 4, _, h1 | 5, _, h1 | 6, _, h1 | 7, _, h1 | 8, _, h1 | 9, _, h1 | 10, _, h1 =>
    simp [lenRule, wideB, highB, marginB, h2, betweenB] at h1
    omega
/-- A text with a length has none. -/
theorem right_text (s : Style) {i : Nat} (h : i < 11) (l : LenV) (hl : zeroLen l = false) (hk : s.kind = 3) : rightB (s.put i l) = false := by
  rw [← Bool.not_eq_true]
  intro hr
  unfold rightB at hr
  rw [put_kind, hk, if_neg (by omega), if_pos rfl] at hr
  unfold textB at hr
  rw [List.all_eq_true] at hr
  have := text_put s h l (hr _ (by unfold textOf; split <;> simp))
  rw [hl] at this
  cases this

/-- The law of the load of a style that lies in a block. -/
theorem wpList_load_sty {w : World} {ops : Array Oper} {rest : List Oper} {o : Oper} {a : Act} {Q : Exit → Act → World → Prop} (hw : Region.wanted o (yielded ops a.tmps) = true) (x : Operand) (ho : o.op = .load 28 x)
    (g : Nat) (hx : a.eval x = .pointer (some ⟨g, 0, none⟩)) (s : Style) (L : Array Value) (hL : Hid ((styE s).toArray = L)) (hA : Hid (AtS w g s)) (h : wpList Try.prog ops Q rest (a.put o.dst (.agg L)) w) : wpList Try.prog ops Q (o :: rest) a w :=
  wpList_step fun K hK => by
    rw [if_pos hw]
    unfold Oper.wp execOp
    have hl : (loadVar 28 ⟨g, 0, none⟩).run Try.prog w = .ok (.agg (styE s).toArray) w :=
      Go.run_loadVar_mid w g 0 28 (styE s) _ (fun j v hv => by rw [Nat.zero_add]; exact hA.out.2 j v hv) Try.underlying28 rfl (by rw [styE_len]; kernel_rfl)
    simp only [ho, hx, Instr.loadAt, Instr.sureAddr, Sem.run_bind, Sem.run_pure, Result.andThen_ok, hl]
    rw [hL.out]
    exact hK _ _ h
/-- The law of the store of a whole style into the block that was made last. -/
theorem wpList_store_new {w0 : World} {ops : Array Oper} {rest : List Oper} {o : Oper} {a : Act} {Q : Exit → Act → World → Prop} (hgd : o.guard = none) (x y : Operand) (ho : o.op = .store 28 x y) (c L : Array Value)
    (hx : a.eval x = .pointer (some ⟨w0.heap.size, 0, none⟩)) (hy : a.eval y = .agg L) (hc : c.size = 43) (hL : L.size = 43) (h1 : L.all (·.oneCell') = true)
    (h : wpList Try.prog ops Q rest (a.put o.dst undef) (w0.alloc (.cells L 28))) : wpList Try.prog ops Q (o :: rest) a (w0.alloc (.cells c 28)) :=
  wpList_store_row hgd 28 x y ho w0.heap.size L hx hy 28 c (heap_alloc_last w0 _) (by rw [hL]; kernel_rfl) (by rw [hc, hL]) h1 (by rw [World.setRow_alloc_new]; exact h)
end Go.Proofs.Ytjjaeloamogfdaa
