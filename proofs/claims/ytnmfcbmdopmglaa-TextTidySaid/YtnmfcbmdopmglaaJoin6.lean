/-
  Two texts with an end between them have the words of both: pure; and how the first words of a slice are a slice.
-/
import Derived.Test.YtnmfcbmdopmglaaEnds6
import Derived.Test.YtnmfcbmdopmglaaSmall6
import Derived.Test.YtnmfcbmdopmglaaRows6
namespace Go.Proofs.Ytnmfcbmdopmglaa
open Go.RowKit
set_option linter.unusedVariables false

def both (u v : List Int) : List Int := u ++ 10 :: v
theorem both_len (u v : List Int) : (both u v).length = u.length + 1 + v.length := by simp [both]; omega
theorem wAt_left {u v : List Int} {k : Nat} (h : k < u.length) : wAt (both u v) k = wAt u k := by unfold wAt both; rw [List.getElem?_append_left h]
theorem wAt_mid (u v : List Int) : wAt (both u v) u.length = false := by unfold wAt both; rw [List.getElem?_append_right (Nat.le_refl _)]; simp [isW]
theorem wAt_right {u v : List Int} (k : Nat) : wAt (both u v) (u.length + 1 + k) = wAt v k := by
  unfold wAt both
  rw [List.getElem?_append_right (by omega), show u.length + 1 + k - u.length = k + 1 by omega, List.getElem?_cons_succ]
theorem cut_left {u v : List Int} {a b : Nat} (h : b ≤ u.length) : cut (both u v) a b = cut u a b := by
  unfold cut both
  rw [List.take_append_of_le_length h]
theorem cut_right {u v : List Int} (a b : Nat) : cut (both u v) (u.length + 1 + a) (u.length + 1 + b) = cut v a b := by
  unfold cut both
  rw [show u ++ 10 :: v = (u ++ [10]) ++ v by simp]
  have hl : (u ++ [(10 : Int)]).length = u.length + 1 := by simp
  rw [← hl, List.take_append, List.drop_append]
  rw [List.take_of_length_le (by omega), List.drop_of_length_le (by omega)]
  simp
theorem endsN_append (a b : List Int) : endsN (a ++ b) = endsN a + endsN b := by unfold endsN; rw [List.filter_append, List.length_append]
theorem cut_split {u : List Int} {a b c : Nat} (h1 : a ≤ b) (h2 : b ≤ c) : cut u a c = cut u a b ++ cut u b c := by
  unfold cut
  have e : (u.take c).drop a = ((u.take c).take b).drop a ++ (u.take c).drop b := by
    conv => lhs; rw [← List.take_append_drop b (u.take c)]
    rw [List.drop_append]
    by_cases hl : a ≤ ((u.take c).take b).length
    · rw [show a - ((u.take c).take b).length = 0 by omega, List.drop_zero]
    · have h3 : ((u.take c).drop b) = [] := by
        apply List.eq_nil_of_length_eq_zero
        simp at hl ⊢
        omega
      rw [h3]
      simp
  rw [e, List.take_take, Nat.min_eq_left h2]
theorem Gap.trans {u : List Int} {a b c n m : Nat} (h : Gap u a b n) (k : Gap u b c m) : Gap u a c (n + m) := by
  refine ⟨Nat.le_trans h.1 k.1, k.2.1, fun i h1 h2 => ?_, ?_⟩
  · rcases Nat.lt_or_ge i b with h3 | h3
    · exact h.w h1 h3
    · exact k.w h3 h2
  · rw [cut_split h.1 k.1, endsN_append, h.2.2.2, k.2.2.2]
theorem Gap.left {u v : List Int} {a b n : Nat} (h : Gap u a b n) : Gap (both u v) a b n :=
  ⟨h.1, by rw [both_len]; have := h.2.1; omega, fun k h1 h2 => by rw [wAt_left (by have := h.2.1; omega)]; exact h.w h1 h2, by rw [cut_left h.2.1]; exact h.2.2.2⟩
theorem Gap.right {u v : List Int} {a b n : Nat} (h : Gap v a b n) : Gap (both u v) (u.length + 1 + a) (u.length + 1 + b) n :=
  ⟨by have := h.1; omega, by rw [both_len]; have := h.2.1; omega, fun k h1 h2 => by
    obtain ⟨j, rfl⟩ : ∃ j, k = u.length + 1 + j := ⟨k - (u.length + 1), by omega⟩
    rw [wAt_right]; exact h.w (by omega) (by omega), by rw [cut_right]; exact h.2.2.2⟩
theorem Gap.mid (u v : List Int) : Gap (both u v) u.length (u.length + 1) 1 := by
  have h := (Gap.nil (u := both u v) (a := u.length) (by rw [both_len]; omega)).snoc (c := 10) (by unfold both; rw [List.getElem?_append_right (Nat.le_refl _)]; simp) rfl
  exact h
theorem Run.left {u v : List Int} {a b : Nat} (h : Run u a b) (hb : b ≤ u.length) : Run (both u v) a b := ⟨h.1, fun k h1 h2 => by rw [wAt_left (by omega)]; exact h.2 k h1 h2⟩
theorem Run.right {u v : List Int} {a b : Nat} (h : Run v a b) : Run (both u v) (u.length + 1 + a) (u.length + 1 + b) :=
  ⟨by have := h.1; omega, fun k h1 h2 => by
    obtain ⟨j, rfl⟩ : ∃ j, k = u.length + 1 + j := ⟨k - (u.length + 1), by omega⟩
    rw [wAt_right]; exact h.2 j (by omega) (by omega)⟩
theorem Nxt.left {u v : List Int} {a : Nat} {p : Plc} (h : Nxt u a p) : Nxt (both u v) a p := by
  refine ⟨h.1.left, h.2.1, h.2.2.1.left h.le, ?_⟩
  rcases Nat.lt_or_ge p.t u.length with h1 | h1
  · rw [wAt_left h1]; exact h.2.2.2
  · have e : p.t = u.length := by have := h.le; omega
    rw [e]; exact wAt_mid u v
/-- A word of the second text, moved on. -/
def mv (b e : Nat) (p : Plc) : Plc := ⟨b + p.s, b + p.t, p.e + e⟩
theorem Nxt.right {u v : List Int} {a : Nat} {p : Plc} (h : Nxt v a p) : Nxt (both u v) (u.length + 1 + a) (mv (u.length + 1) 0 p) :=
  ⟨h.1.right, by have := h.2.1; show _ + p.s < _ + p.t; omega, h.2.2.1.right, by show wAt _ (_ + p.t) = _; rw [wAt_right]; exact h.2.2.2⟩
theorem Nxt.joint {u v : List Int} {z m : Nat} {p : Plc} (g : Gap u z u.length m) (h : Nxt v 0 p) : Nxt (both u v) z (mv (u.length + 1) (m + 1) p) := by
  refine ⟨?_, by have := h.2.1; show _ + p.s < _ + p.t; omega, h.2.2.1.right, by show wAt _ (_ + p.t) = _; rw [wAt_right]; exact h.2.2.2⟩
  have k := (g.left (v := v)).trans ((Gap.mid u v).trans (h.1.right (u := u)))
  show Gap _ _ _ (p.e + (m + 1))
  rw [show p.e + (m + 1) = m + (1 + p.e) by omega]
  exact k
theorem chn_left {u v : List Int} : ∀ (ps : List Plc) (a z : Nat), Chn u a ps z → Chn (both u v) a ps z
  | [], a, z, h => h
  | p :: ps, a, z, h => ⟨h.1.left, chn_left ps p.t z h.2⟩
theorem chn_right {u v : List Int} : ∀ (ps : List Plc) (a z : Nat), Chn v a ps z → Chn (both u v) (u.length + 1 + a) (ps.map (mv (u.length + 1) 0)) (u.length + 1 + z)
  | [], a, z, h => by cases h; rfl
  | p :: ps, a, z, h => ⟨h.1.right, chn_right ps p.t z h.2⟩
theorem chn_app {u : List Int} : ∀ (ps qs : List Plc) (a z y : Nat), Chn u a ps z → Chn u z qs y → Chn u a (ps ++ qs) y
  | [], qs, a, z, y, h, k => by cases h; exact k
  | p :: ps, qs, a, z, y, h, k => ⟨h.1, chn_app ps qs p.t z y h.2 k⟩
/-- The words of the second text, as they stand behind the first one. -/
def mvs (b e : Nat) : List Plc → List Plc
  | [] => []
  | p :: ps => mv b e p :: ps.map (mv b 0)
theorem whl_both {u v : List Int} {ps qs : List Plc} {z m : Nat} (h : Chn u 0 ps z) (g : Gap u z u.length m) (k : Whl v qs) : Whl (both u v) (ps ++ mvs (u.length + 1) (m + 1) qs) := by
  obtain ⟨y, n, k1, k2⟩ := k
  cases qs with
  | nil =>
    cases k1
    refine ⟨z, m + (1 + n), by rw [mvs, List.append_nil]; exact chn_left ps 0 z h, ?_⟩
    have := (g.left (v := v)).trans ((Gap.mid u v).trans (k2.right (u := u)))
    rw [both_len]
    exact this
  | cons q qs =>
    refine ⟨u.length + 1 + y, n, chn_app ps _ 0 z _ (chn_left ps 0 z h) ⟨k1.1.joint g, chn_right qs q.t y k1.2⟩, ?_⟩
    rw [both_len]
    exact k2.right
theorem mvs_len (b e : Nat) (qs : List Plc) : (mvs b e qs).length = qs.length := by cases qs <;> simp [mvs]

/-- The words of the first text stay; those of the second one are moved on. -/
def mvw (b e : Int) (x : Wrd) : Wrd := ⟨x.s + b + 1, x.t + b + 1, x.w, x.g, x.e + e⟩
theorem wrdOf_left {A u v : List Int} {b : Bool} {p : Plc} (h : p.t ≤ u.length) : wrdOf A (both u v) b p = wrdOf A u b p ∧ farOf A (both u v) b p = farOf A u b p := by
  unfold wrdOf farOf
  rw [cut_left h]
  exact ⟨rfl, rfl⟩
theorem chn_bd {u : List Int} : ∀ (ps : List Plc) (a z : Nat), Chn u a ps z → ∀ p ∈ ps, p.t ≤ u.length
  | [], a, z, h, p, hp => by cases hp
  | q :: ps, a, z, h, p, hp => by
    rcases List.mem_cons.1 hp with rfl | hp
    · exact h.1.le
    · exact chn_bd ps q.t z h.2 p hp
theorem wrds_app (A u : List Int) (ps qs : List Plc) : wrds A u (ps ++ qs) = wrds A u ps ++ (match ps with | [] => wrds A u qs | _ :: _ => qs.map (wrdOf A u false)) := by
  cases ps with
  | nil => rfl
  | cons p ps => simp [wrds]
theorem fars_app (A u : List Int) (ps qs : List Plc) : fars A u (ps ++ qs) = (fars A u ps || (match ps with | [] => fars A u qs | _ :: _ => qs.any (farOf A u false))) := by
  cases ps with
  | nil => simp [fars]
  | cons p ps => simp [fars, Bool.or_assoc]
theorem wrds_left {A u v : List Int} {ps : List Plc} (h : ∀ p ∈ ps, p.t ≤ u.length) : wrds A (both u v) ps = wrds A u ps ∧ fars A (both u v) ps = fars A u ps := by
  cases ps with
  | nil => exact ⟨rfl, rfl⟩
  | cons p ps =>
    have h0 := wrdOf_left (A := A) (v := v) (b := true) (h p (List.mem_cons_self ..))
    refine ⟨?_, ?_⟩
    · simp only [wrds, h0.1]
      congr 1
      exact List.map_congr_left fun q hq => (wrdOf_left (h q (List.mem_cons_of_mem _ hq))).1
    · simp only [fars, h0.2]
      congr 1
      have key : ∀ qs : List Plc, (∀ q ∈ qs, q.t ≤ u.length) → qs.any (farOf A (both u v) false) = qs.any (farOf A u false) := by
        intro qs
        induction qs with
        | nil => intro _; rfl
        | cons q qs ih => intro hq; simp only [List.any_cons]; rw [(wrdOf_left (hq q (List.mem_cons_self ..))).2, ih fun x hx => hq x (List.mem_cons_of_mem _ hx)]
      exact key ps fun q hq => h q (List.mem_cons_of_mem _ hq)
theorem wrdOf_right {A u v : List Int} {p : Plc} : wrdOf A (both u v) false (mv (u.length + 1) 0 p) = mvw u.length 0 (wrdOf A v false p) ∧ farOf A (both u v) false (mv (u.length + 1) 0 p) = farOf A v false p := by
  unfold wrdOf farOf mvw
  rw [show (mv (u.length + 1) 0 p).s = u.length + 1 + p.s from rfl, show (mv (u.length + 1) 0 p).t = u.length + 1 + p.t from rfl, cut_right]
  have hg : gapOf A false (mv (u.length + 1) 0 p) = gapOf A false p ∧ gapF A false (mv (u.length + 1) 0 p) = gapF A false p := ⟨rfl, rfl⟩
  rw [hg.1, hg.2]
  refine ⟨?_, rfl⟩
  have e1 : ((u.length + 1 + p.s : Nat) : Int) = (p.s : Int) + u.length + 1 := by omega
  have e2 : ((u.length + 1 + p.t : Nat) : Int) = (p.t : Int) + u.length + 1 := by omega
  have e3 : (((mv (u.length + 1) 0 p).e : Nat) : Int) = (p.e : Int) + 0 := by show ((p.e + 0 : Nat) : Int) = _; omega
  rw [e1, e2, e3]
theorem wrdOf_joint {A u v : List Int} {b : Bool} {m : Nat} {p : Plc} : wrdOf A (both u v) b (mv (u.length + 1) (m + 1) p) = mvw u.length ((m : Int) + 1) (wrdOf A v true p) ∧ farOf A (both u v) b (mv (u.length + 1) (m + 1) p) = farOf A v true p := by
  have hg : gapOf A b (mv (u.length + 1) (m + 1) p) = gapOf A true p ∧ gapF A b (mv (u.length + 1) (m + 1) p) = gapF A true p := by
    unfold gapOf gapF
    have h0 : ¬ (b = false ∧ (mv (u.length + 1) (m + 1) p).e = 0) := fun h => by
      have : p.e + (m + 1) = 0 := h.2
      omega
    rw [if_neg h0, decide_eq_false h0]
    simp
  unfold wrdOf farOf mvw
  rw [show (mv (u.length + 1) (m + 1) p).s = u.length + 1 + p.s from rfl, show (mv (u.length + 1) (m + 1) p).t = u.length + 1 + p.t from rfl, cut_right, hg.1, hg.2]
  refine ⟨?_, rfl⟩
  have e1 : ((u.length + 1 + p.s : Nat) : Int) = (p.s : Int) + u.length + 1 := by omega
  have e2 : ((u.length + 1 + p.t : Nat) : Int) = (p.t : Int) + u.length + 1 := by omega
  have e3 : (((mv (u.length + 1) (m + 1) p).e : Nat) : Int) = (p.e : Int) + ((m : Int) + 1) := by show ((p.e + (m + 1) : Nat) : Int) = _; omega
  rw [e1, e2, e3]
/-- All words of both texts. -/
theorem wrds_both {A u v : List Int} {ps qs : List Plc} {m : Nat} (hb : ∀ p ∈ ps, p.t ≤ u.length) :
    ∃ r : List Wrd, wrds A (both u v) (ps ++ mvs (u.length + 1) (m + 1) qs) = wrds A u ps ++ r ∧ r.length = qs.length ∧ (∀ i x, (wrds A v qs)[i]? = some x → r[i]? = some (mvw u.length (if i = 0 then (m : Int) + 1 else 0) x)) ∧
      fars A (both u v) (ps ++ mvs (u.length + 1) (m + 1) qs) = (fars A u ps || fars A v qs) := by
  refine ⟨_, by rw [wrds_app, (wrds_left hb).1], ?_, ?_, ?_⟩
  · cases ps <;> simp [wrds_len, mvs_len]
  · intro i x hx
    cases qs with
    | nil => simp [wrds] at hx
    | cons q qs =>
      have key : ∀ b, (wrdOf A (both u v) b (mv (u.length + 1) (m + 1) q) :: (qs.map (mv (u.length + 1) 0)).map (wrdOf A (both u v) false))[i]? = some (mvw u.length (if i = 0 then (m : Int) + 1 else 0) x) := by
        intro b
        cases i with
        | zero => simp only [wrds, List.getElem?_cons_zero, Option.some.injEq] at hx ⊢; rw [← hx, wrdOf_joint.1]; rfl
        | succ i =>
          simp only [wrds, List.getElem?_cons_succ, List.getElem?_map] at hx ⊢
          cases hq : qs[i]? with
          | none => rw [hq] at hx; cases hx
          | some y =>
            rw [hq] at hx
            simp only [Option.map_some, Option.some.injEq] at hx ⊢
            rw [wrdOf_right.1, hx]
            rfl
      cases ps with
      | nil => exact key true
      | cons p ps => exact key false
  · rw [fars_app, (wrds_left hb).2]
    congr 1
    cases qs with
    | nil => cases ps <;> rfl
    | cons q qs =>
      have key : ∀ l : List Plc, (l.map (mv (u.length + 1) 0)).any (farOf A (both u v) false) = l.any (farOf A v false) := by
        intro l
        induction l with
        | nil => rfl
        | cons y l ih => simp only [List.map_cons, List.any_cons, wrdOf_right.2, ih]
      cases ps with
      | nil => simp only [mvs, fars, wrdOf_joint.2, key]
      | cons p ps => simp only [mvs, List.any_cons, wrdOf_joint.2, key, fars]

theorem chn_last {u : List Int} {ps : List Plc} {z k : Nat} {p : Plc} (h : Chn u 0 ps z) (hk : ps.length = k + 1) (hp : ps[k]? = some p) : p.t = z := by
  obtain ⟨y, h1, h2⟩ := chn_at ps 0 z k p h hp
  have h3 := chn_take h1 hp h2
  rw [List.take_of_length_le (by omega)] at h3
  exact chn_det ps 0 _ _ h3 h
theorem Sl.pre {α : Type} {f : α → List Value} {w : World} {A : Option Addr} {n c : Nat} {l r : List α} (h : Sl f w A n c (l ++ r)) {k : Nat} (hk : l.length = k) : Sl f w A k c l := by
  have hl := h.len
  have hc := h.cap
  rw [List.length_append] at hl
  refine ⟨hk.symm, by omega, fun e => by have := h.nil e; omega, fun hpos => ?_⟩
  obtain ⟨a, e, hb, hc⟩ := h.at_ (by rw [List.length_append]; omega)
  refine ⟨a, e, hb, fun j u hu => hc j u ?_⟩
  rw [List.flatMap_append, List.getElem?_append_left (List.getElem?_eq_some_iff.1 hu).1]
  exact hu
set_option maxRecDepth 100000 in
theorem slice_wrd_h (U : Option Addr) (n c b : Nat) (hb : b ≤ c) (w : World) :
    (Instr.slice 48 (.slice U n c) none (some (.int .i64 (b : Int))) none).run Try.prog w = .ok (.slice U b c) w := by
  rw [run_slice_h (P := Try.prog) (w := w) 48 U n c Try.underlying48 .i64 (b : Int) (by omega) (by omega)]
  have hs : (sizeOf (Try.prog.elem 48)).run Try.prog w = .ok 5 w := by kernel_rfl
  rw [hs]
  cases U with
  | none => simp [Result.andThen, sliced]
  | some a =>
    have e : a.add 0 = a := by unfold Addr.add; simp
    simp [Result.andThen, sliced, e]
end Go.Proofs.Ytnmfcbmdopmglaa
