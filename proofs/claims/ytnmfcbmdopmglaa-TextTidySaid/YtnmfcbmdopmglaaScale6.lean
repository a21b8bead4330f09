/-
  With all advances so many times as great words are so many times as wide: pure.
-/
import Derived.Test.YtnmfcbmdopmglaaJoin6
import Derived.Test.YtnmfcbmdopmglaaExtent
namespace Go.Proofs.Ytnmfcbmdopmglaa
open Go.RowKit
set_option linter.unusedVariables false

/-- A list of advances of which none is far from 0. -/
def Near20 (A : List Int) : Prop := ∀ z ∈ A, -8000000 ≤ z ∧ z ≤ 8000000
def mulA (k : Int) (A : List Int) : List Int := A.map (k * ·)
theorem adv_near {A : List Int} (h : Near20 A) (c : Int) : -8000000 ≤ adv A c ∧ adv A c ≤ 8000000 := by
  unfold adv
  rw [List.getD_eq_getElem?_getD]
  cases e : A[c.toNat]? with
  | none => simp
  | some z => exact h z (List.mem_of_getElem? e)
theorem adv_mul (k : Int) (A : List Int) (c : Int) : adv (mulA k A) c = k * adv A c := by
  unfold adv mulA
  rw [List.getD_eq_getElem?_getD, List.getD_eq_getElem?_getD, List.getElem?_map]
  cases A[c.toNat]? <;> simp
theorem wide_mul (k : Int) (A u : List Int) : wideS (mulA k A) u = k * wideS A u := by
  unfold wideS advs
  induction u with
  | nil => simp
  | cons x u ih => simp only [List.map_cons, List.sum_cons, ih, adv_mul, Int.mul_add]
theorem wide_near {A : List Int} (h : Near20 A) : ∀ u : List Int, -8000000 * (u.length : Int) ≤ wideS A u ∧ wideS A u ≤ 8000000 * (u.length : Int)
  | [] => by simp [wideS, advs]
  | x :: u => by
    have ih := wide_near h u
    have hx := adv_near h x
    have e : wideS A (x :: u) = adv A x + wideS A u := by simp [wideS, advs]
    rw [e]
    simp only [List.length_cons, Int.natCast_add]
    omega
theorem near_cut {x : Int} (h : -1099511627776 ≤ x ∧ x ≤ 1099511627776) : cutI x = x ∧ farI x = false := by
  unfold cutI farI
  rw [if_neg (by omega), if_neg (by omega)]
  exact ⟨rfl, by simp; omega⟩
/-- A word so many times as wide. -/
def mulW (k : Int) (x : Wrd) : Wrd := ⟨x.s, x.t, k * x.w, k * x.g, x.e⟩
theorem cut_len (u : List Int) (a b : Nat) : (cut u a b).length ≤ u.length := by simp [cut]; omega
theorem wrdOf_mul {A u : List Int} {k : Int} (h : Near20 A) (h2 : Near20 (mulA k A)) (hu : u.length ≤ 3000) (b : Bool) (p : Plc) :
    wrdOf (mulA k A) u b p = mulW k (wrdOf A u b p) ∧ farOf A u b p = false ∧ farOf (mulA k A) u b p = false := by
  have c1 := wide_near h (cut u p.s p.t)
  have c2 := wide_near h2 (cut u p.s p.t)
  have cl := cut_len u p.s p.t
  have d1 := near_cut (x := wideS A (cut u p.s p.t)) (by omega)
  have d2 := near_cut (x := wideS (mulA k A) (cut u p.s p.t)) (by omega)
  have a1 := adv_near h 32
  have a2 := adv_near h2 32
  have e1 := near_cut (x := adv A 32) (by omega)
  have e2 := near_cut (x := adv (mulA k A) 32) (by omega)
  have hg : gapOf (mulA k A) b p = k * gapOf A b p := by
    unfold gapOf
    rw [e1.1, e2.1, adv_mul]
    split <;> simp
  have hf1 : gapF A b p = false := by unfold gapF; rw [e1.2]; simp
  have hf2 : gapF (mulA k A) b p = false := by unfold gapF; rw [e2.2]; simp
  refine ⟨?_, ?_, ?_⟩
  · unfold wrdOf mulW
    rw [d1.1, d2.1, wide_mul, hg]
  · unfold farOf; rw [d1.2, hf1]; rfl
  · unfold farOf; rw [d2.2, hf2]; rfl
theorem wrds_mul {A u : List Int} {k : Int} (h : Near20 A) (h2 : Near20 (mulA k A)) (hu : u.length ≤ 3000) (ps : List Plc) :
    wrds (mulA k A) u ps = (wrds A u ps).map (mulW k) ∧ fars A u ps = false ∧ fars (mulA k A) u ps = false := by
  have hw := fun b p => wrdOf_mul h h2 hu b p
  cases ps with
  | nil => exact ⟨rfl, rfl, rfl⟩
  | cons p ps =>
    refine ⟨?_, ?_, ?_⟩
    · simp only [wrds, List.map_cons, (hw true p).1, List.map_map]
      congr 1
      exact List.map_congr_left fun q _ => (hw false q).1
    · simp only [fars, (hw true p).2.1, Bool.false_or]
      rw [List.any_eq_false]
      intro q _
      rw [(hw false q).2.1]
      simp
    · simp only [fars, (hw true p).2.2, Bool.false_or]
      rw [List.any_eq_false]
      intro q _
      rw [(hw false q).2.2]
      simp
/-- How far from 0 all widths and gaps are together. -/
def tot (l : List Wrd) : Nat := (l.map fun x => x.w.natAbs + x.g.natAbs).sum
theorem tot_append (a b : List Wrd) : tot (a ++ b) = tot a + tot b := by unfold tot; rw [List.map_append, List.sum_append]
theorem tot_subs (l : List Wrd) (r : Rg) : tot (subs l r) ≤ tot l := by
  unfold subs
  have h1 := tot_append (l.take r.b) (l.drop r.b)
  have h2 := tot_append ((l.take r.b).take r.a) ((l.take r.b).drop r.a)
  rw [List.take_append_drop] at h1 h2
  omega
theorem rowS_tot (l : List Wrd) : (rowS l).natAbs ≤ tot l := by
  have key : ∀ l : List Wrd, ((l.flatMap fun y : Wrd => [y.w, y.g]).sum).natAbs ≤ tot l := by
    intro l
    induction l with
    | nil => simp [tot]
    | cons x l ih =>
      have e : tot (x :: l) = x.w.natAbs + x.g.natAbs + tot l := by simp [tot]
      rw [List.flatMap_cons, List.sum_append, e]
      simp only [List.sum_cons, List.sum_nil]
      omega
  cases l with
  | nil => simp [rowS, rowI, tot]
  | cons x l =>
    have k := key l
    have e : tot (x :: l) = x.w.natAbs + x.g.natAbs + tot l := by simp [tot]
    have e2 : rowS (x :: l) = x.w + (l.flatMap fun y : Wrd => [y.w, y.g]).sum := by simp [rowS, rowI]
    rw [e, e2]
    omega
theorem wrdOf_tot {A u : List Int} (h : Near20 A) {a : Nat} {p : Plc} (hn : Nxt u a p) (hu : u.length ≤ 3000) (b : Bool) : (wrdOf A u b p).w.natAbs + (wrdOf A u b p).g.natAbs ≤ 8000000 * (p.t - p.s) + 8000000 := by
  have c1 := wide_near h (cut u p.s p.t)
  have cl : (cut u p.s p.t).length ≤ p.t - p.s := by simp [cut]; omega
  have cl2 := cut_len u p.s p.t
  have d1 := near_cut (x := wideS A (cut u p.s p.t)) (by omega)
  have a1 := adv_near h 32
  have e1 := near_cut (x := adv A 32) (by omega)
  have hw : (wrdOf A u b p).w = wideS A (cut u p.s p.t) := d1.1
  have hg : (wrdOf A u b p).g.natAbs ≤ 8000000 := by
    show (gapOf A b p).natAbs ≤ _
    unfold gapOf
    rw [e1.1]
    split <;> omega
  rw [hw]
  omega
theorem wrds_tot' {A u : List Int} (h : Near20 A) (hu : u.length ≤ 3000) : ∀ (ps : List Plc) (a z : Nat) (b : Bool), Chn u a ps z → tot (ps.map (wrdOf A u b)) ≤ 16000000 * (z - a)
  | [], a, z, b, hc => by simp [tot]
  | p :: ps, a, z, b, hc => by
    have ih := wrds_tot' h hu ps p.t z b hc.2
    have h1 := wrdOf_tot h hc.1 hu b
    have e : tot ((p :: ps).map (wrdOf A u b)) = (wrdOf A u b p).w.natAbs + (wrdOf A u b p).g.natAbs + tot (ps.map (wrdOf A u b)) := by simp [tot]
    have h2 := hc.1.1.1
    have h3 := hc.1.2.1
    have h4 := chn_len ps p.t z hc.2
    rw [e]
    omega
theorem wrds_tot {A u : List Int} (h : Near20 A) (hu : u.length ≤ 3000) {ps : List Plc} (hp : Whl u ps) : tot (wrds A u ps) ≤ 48000000000 := by
  obtain ⟨z, n, hc, hg⟩ := hp
  have hz := hg.1
  cases ps with
  | nil => simp [wrds, tot]
  | cons p ps =>
    have h1 := wrds_tot' h hu ps p.t z false hc.2
    have h2 := wrdOf_tot h hc.1 hu true
    have h3 := hc.1.2.1
    have h4 := chn_len ps p.t z hc.2
    have e : tot (wrds A u (p :: ps)) = (wrdOf A u true p).w.natAbs + (wrdOf A u true p).g.natAbs + tot (ps.map (wrdOf A u false)) := by simp [tot, wrds]
    rw [e]
    omega
theorem rowS_mul (k : Int) (l : List Wrd) : rowS (l.map (mulW k)) = k * rowS l := by
  have key : ∀ l : List Wrd, ((l.map (mulW k)).flatMap fun y : Wrd => [y.w, y.g]).sum = k * (l.flatMap fun y : Wrd => [y.w, y.g]).sum := by
    intro l
    induction l with
    | nil => simp
    | cons x l ih =>
      rw [List.map_cons, List.flatMap_cons, List.flatMap_cons, List.sum_append, List.sum_append, ih]
      simp only [List.sum_cons, List.sum_nil, mulW, Int.mul_add]
      omega
  cases l with
  | nil => simp [rowS, rowI]
  | cons x l =>
    have e : ∀ (y : Wrd) (l : List Wrd), rowS (y :: l) = y.w + (l.flatMap fun y : Wrd => [y.w, y.g]).sum := fun y l => by simp [rowS, rowI]
    rw [List.map_cons, e, e, key, Int.mul_add]
    rfl
theorem subs_map (k : Int) (l : List Wrd) (r : Rg) : subs (l.map (mulW k)) r = (subs l r).map (mulW k) := by unfold subs; rw [← List.map_take, ← List.map_drop]
theorem rws_map (k : Int) (l : List Wrd) : ∀ (rs : List Rg) (a z : Nat), Rws l a rs z → Rws (l.map (mulW k)) a rs z := by
  have hj : ∀ i, joinB (l.map (mulW k)) i = joinB l i := fun i => by
    unfold joinB
    rw [List.getElem?_map]
    cases l[i]? <;> rfl
  intro rs
  induction rs with
  | nil => intro a z h; exact h
  | cons r rs ih =>
    intro a z h
    obtain ⟨⟨h1, h2, h3, h4, h5⟩, h6⟩ := h
    exact ⟨⟨h1, h2, by rw [List.length_map]; exact h3, fun i hi hi2 => by rw [hj]; exact h4 i hi hi2, by rw [hj]; exact h5⟩, ih r.b z h6⟩
theorem rwhl_map (k : Int) {l : List Wrd} {rs : List Rg} (h : RWhl l rs) : RWhl (l.map (mulW k)) rs := by
  unfold RWhl
  rw [List.length_map]
  exact rws_map k l rs 0 _ h
theorem lst_mul {k : Int} (hk : 0 < k) (l : List Wrd) : lst (l.map (mulW k)) = k * lst l := by
  have key : ∀ (l : List Wrd) (m : Int), (l.map (mulW k)).foldl (fun m y => if m < y.w then y.w else m) (k * m) = k * l.foldl (fun m y => if m < y.w then y.w else m) m := by
    intro l
    induction l with
    | nil => intro m; rfl
    | cons y l ih =>
      intro m
      simp only [List.map_cons, List.foldl_cons]
      have e : (if k * m < (mulW k y).w then (mulW k y).w else k * m) = k * (if m < y.w then y.w else m) := by
        show (if k * m < k * y.w then k * y.w else k * m) = _
        by_cases h : m < y.w
        · rw [if_pos h, if_pos (Int.mul_lt_mul_of_pos_left h hk)]
        · rw [if_neg h, if_neg (fun h2 => h (Int.lt_of_mul_lt_mul_left h2 (Int.le_of_lt hk)))]
      rw [e, ih]
  cases l with
  | nil => simp [lst]
  | cons x l => exact key l x.w
theorem grt_mul {k : Int} (hk : 0 < k) {l : List Wrd} (h1 : tot l ≤ 48000000000) (h2 : tot (l.map (mulW k)) ≤ 48000000000) (rs : List Rg) : grt (l.map (mulW k)) rs = k * grt l rs ∧ farE l rs = false ∧ farE (l.map (mulW k)) rs = false := by
  have hn : ∀ r, cutI (rowS (subs l r)) = rowS (subs l r) ∧ farI (rowS (subs l r)) = false := fun r => by
    have := rowS_tot (subs l r)
    have := tot_subs l r
    exact near_cut (by omega)
  have hn2 : ∀ r, cutI (rowS (subs (l.map (mulW k)) r)) = k * rowS (subs l r) ∧ farI (rowS (subs (l.map (mulW k)) r)) = false := fun r => by
    have := rowS_tot (subs (l.map (mulW k)) r)
    have := tot_subs (l.map (mulW k)) r
    have h := near_cut (x := rowS (subs (l.map (mulW k)) r)) (by omega)
    exact ⟨by rw [h.1, subs_map, rowS_mul], h.2⟩
  refine ⟨?_, ?_, ?_⟩
  · have key : ∀ (rs : List Rg) (m : Int), rs.foldl (fun m r => max m (cutI (rowS (subs (l.map (mulW k)) r)))) (k * m) = k * rs.foldl (fun m r => max m (cutI (rowS (subs l r)))) m := by
      intro rs
      induction rs with
      | nil => intro m; rfl
      | cons r rs ih =>
        intro m
        simp only [List.foldl_cons]
        rw [(hn2 r).1, (hn r).1]
        have e : max (k * m) (k * rowS (subs l r)) = k * max m (rowS (subs l r)) := by
          rcases Int.le_total m (rowS (subs l r)) with h | h
          · rw [Int.max_eq_right h, Int.max_eq_right (Int.mul_le_mul_of_nonneg_left h (Int.le_of_lt hk))]
          · rw [Int.max_eq_left h, Int.max_eq_left (Int.mul_le_mul_of_nonneg_left h (Int.le_of_lt hk))]
        rw [e, ih]
    have := key rs 0
    rw [Int.mul_zero] at this
    exact this
  · unfold farE; rw [List.any_eq_false]; intro r _; rw [(hn r).2]; simp
  · unfold farE; rw [List.any_eq_false]; intro r _; rw [(hn2 r).2]; simp
end Go.Proofs.Ytnmfcbmdopmglaa
