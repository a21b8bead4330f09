/-
  Of advances that are at least 0: least is not above greatest, greatest not above how wide all units are: pure.
-/
import Derived.Test.YtnmfcbmdopmglaaTwo6
namespace Go.Proofs.Ytnmfcbmdopmglaa
open Go.RowKit
set_option linter.unusedVariables false

theorem cutI_mono {x y : Int} (h : x ≤ y) : cutI x ≤ cutI y := by
  unfold cutI
  split <;> split <;> (try split) <;> (try split) <;> omega
theorem cutI_nn {x : Int} (h : 0 ≤ x) : 0 ≤ cutI x ∧ cutI x ≤ x ∧ cutI x ≤ 1099511627776 := by
  unfold cutI
  split
  · omega
  · rw [if_neg (by omega)]; omega
theorem cutI_same {x : Int} (h : 0 ≤ x) (h2 : x ≤ 1099511627776) : cutI x = x := (near_cut (by omega)).1
theorem adv_nn {A : List Int} (h : ∀ z ∈ A, 0 ≤ z) (c : Int) : 0 ≤ adv A c := by
  unfold adv
  rw [List.getD_eq_getElem?_getD]
  cases e : A[c.toNat]? with
  | none => simp
  | some z => exact h z (List.mem_of_getElem? e)
theorem wide_app (A a b : List Int) : wideS A (a ++ b) = wideS A a + wideS A b := by simp [wideS, advs]
theorem wide_nn {A : List Int} (h : ∀ z ∈ A, 0 ≤ z) : ∀ u : List Int, 0 ≤ wideS A u
  | [] => by simp [wideS, advs]
  | x :: u => by
    have ih := wide_nn h u
    have := adv_nn h x
    have e : wideS A (x :: u) = adv A x + wideS A u := by simp [wideS, advs]
    omega
/-- Words whose widths and gaps are at least 0. -/
def NN (l : List Wrd) : Prop := ∀ x ∈ l, 0 ≤ x.w ∧ 0 ≤ x.g ∧ x.w ≤ 1099511627776
def sumI (l : List Wrd) : Int := (l.map fun x => x.w + x.g).sum
theorem sumI_cons (x : Wrd) (l : List Wrd) : sumI (x :: l) = x.w + x.g + sumI l := by simp [sumI]
theorem sumI_app (a b : List Wrd) : sumI (a ++ b) = sumI a + sumI b := by simp [sumI]
theorem sumI_nn : ∀ {l : List Wrd}, NN l → 0 ≤ sumI l
  | [], _ => by simp [sumI]
  | x :: l, h => by
    have := sumI_nn (l := l) fun y hy => h y (List.mem_cons_of_mem _ hy)
    have := h x (List.mem_cons_self ..)
    rw [sumI_cons]
    omega
theorem NN.subs {l : List Wrd} (h : NN l) (r : Rg) : NN (subs l r) := fun x hx => h x (List.mem_of_mem_take (List.mem_of_mem_drop hx))
theorem sumI_subs {l : List Wrd} (h : NN l) (r : Rg) : sumI (subs l r) ≤ sumI l := by
  unfold Go.Proofs.Ytnmfcbmdopmglaa.subs
  have h1 := sumI_app (l.take r.b) (l.drop r.b)
  have h2 := sumI_app ((l.take r.b).take r.a) ((l.take r.b).drop r.a)
  rw [List.take_append_drop] at h1 h2
  have h3 := sumI_nn (l := l.drop r.b) fun x hx => h x (List.mem_of_mem_drop hx)
  have h4 := sumI_nn (l := (l.take r.b).take r.a) fun x hx => h x (List.mem_of_mem_take (List.mem_of_mem_take hx))
  omega
theorem flat_sum (l : List Wrd) : (l.flatMap fun y : Wrd => [y.w, y.g]).sum = sumI l := by
  induction l with
  | nil => simp [sumI]
  | cons x l ih => rw [List.flatMap_cons, List.sum_append, ih, sumI_cons]; simp
theorem rowS_cons (x : Wrd) (l : List Wrd) : rowS (x :: l) = x.w + sumI l := by rw [← flat_sum]; simp [rowS, rowI]
theorem rowS_le {l : List Wrd} (h : NN l) : 0 ≤ rowS l ∧ rowS l ≤ sumI l := by
  cases l with
  | nil => simp [rowS, rowI, sumI]
  | cons x l =>
    have := h x (List.mem_cons_self ..)
    have := sumI_nn (l := l) fun y hy => h y (List.mem_cons_of_mem _ hy)
    rw [rowS_cons, sumI_cons]
    omega
theorem sumI_mem : ∀ {l : List Wrd} {x : Wrd}, NN l → x ∈ l → x.w ≤ sumI l
  | y :: l, x, h, hx => by
    have h0 := h y (List.mem_cons_self ..)
    have h1 : NN l := fun z hz => h z (List.mem_cons_of_mem _ hz)
    have := sumI_nn h1
    rw [sumI_cons]
    rcases List.mem_cons.1 hx with rfl | hx
    · omega
    · have := sumI_mem h1 hx; omega
theorem rowS_mem {l : List Wrd} {x : Wrd} (h : NN l) (hx : x ∈ l) : x.w ≤ rowS l := by
  cases l with
  | nil => cases hx
  | cons y l =>
    have h0 := h y (List.mem_cons_self ..)
    have h1 : NN l := fun z hz => h z (List.mem_cons_of_mem _ hz)
    have := sumI_nn h1
    rw [rowS_cons]
    rcases List.mem_cons.1 hx with rfl | hx
    · omega
    · have := sumI_mem h1 hx; omega
theorem rws_mem {l : List Wrd} : ∀ (rs : List Rg) (a z i : Nat), Rws l a rs z → a ≤ i → i < z → ∃ r ∈ rs, r.a ≤ i ∧ i < r.b
  | [], a, z, i, h, h1, h2 => by have h : a = z := h; omega
  | r :: rs, a, z, i, h, h1, h2 => by
    rcases Nat.lt_or_ge i r.b with h3 | h3
    · exact ⟨r, List.mem_cons_self .., by have := h.1.1; omega, h3⟩
    · obtain ⟨q, hq, h4⟩ := rws_mem rs r.b z i h.2 h3 h2
      exact ⟨q, List.mem_cons_of_mem _ hq, h4⟩
theorem grt_ge {l : List Wrd} {rs : List Rg} {r : Rg} (h : r ∈ rs) : cutI (rowS (subs l r)) ≤ grt l rs := by
  have key : ∀ (rs : List Rg) (m : Int), m ≤ rs.foldl (fun m r => max m (cutI (rowS (subs l r)))) m ∧ ∀ r ∈ rs, cutI (rowS (subs l r)) ≤ rs.foldl (fun m r => max m (cutI (rowS (subs l r)))) m := by
    intro rs
    induction rs with
    | nil => intro m; exact ⟨Int.le_refl _, fun r hr => by cases hr⟩
    | cons q rs ih =>
      intro m
      simp only [List.foldl_cons]
      obtain ⟨h1, h2⟩ := ih (max m (cutI (rowS (subs l q))))
      refine ⟨by omega, fun r hr => ?_⟩
      rcases List.mem_cons.1 hr with rfl | hr
      · omega
      · exact h2 r hr
  exact (key rs 0).2 r h
theorem grt_le {l : List Wrd} {rs : List Rg} {X : Int} (h0 : 0 ≤ X) (h : ∀ r ∈ rs, cutI (rowS (subs l r)) ≤ X) : grt l rs ≤ X := by
  have key : ∀ (rs : List Rg) (m : Int), m ≤ X → (∀ r ∈ rs, cutI (rowS (subs l r)) ≤ X) → rs.foldl (fun m r => max m (cutI (rowS (subs l r)))) m ≤ X := by
    intro rs
    induction rs with
    | nil => intro m hm _; exact hm
    | cons q rs ih =>
      intro m hm hr
      simp only [List.foldl_cons]
      have := hr q (List.mem_cons_self ..)
      exact ih _ (by omega) (fun r h => hr r (List.mem_cons_of_mem _ h))
  exact key rs 0 h0 h
theorem lst_le_grt {l : List Wrd} {rs : List Rg} (h : NN l) (hr : RWhl l rs) : lst l ≤ grt l rs := by
  have g0 := (grt_bd l rs).1
  rcases lst_mem l with e | ⟨x, hx, e⟩
  · omega
  · obtain ⟨i, hi⟩ := List.getElem?_of_mem hx
    obtain ⟨r, hrr, h1, h2⟩ := rws_mem rs 0 l.length i hr (Nat.zero_le _) (List.getElem?_eq_some_iff.1 hi).1
    have hm : x ∈ subs l r := by
      unfold Go.Proofs.Ytnmfcbmdopmglaa.subs
      refine List.mem_of_getElem? (i := i - r.a) ?_
      rw [List.getElem?_drop, List.getElem?_take, show r.a + (i - r.a) = i by omega, if_pos h2, hi]
    have h3 := rowS_mem (h.subs r) hm
    have h4 := cutI_mono h3
    have h5 := h x hx
    rw [cutI_same h5.1 h5.2.2] at h4
    have := grt_ge (l := l) hrr
    omega
theorem cut_cons {u : List Int} {a b : Nat} {c : Int} (h : u[a]? = some c) (hb : a < b) : cut u a b = c :: cut u (a + 1) b := by
  obtain ⟨hl, rfl⟩ := List.getElem?_eq_some_iff.1 h
  unfold cut
  rw [List.drop_eq_getElem_cons (by simp; omega)]
  simp
theorem gap32 {u : List Int} {a s : Nat} (h : Gap u a s 0) (hlt : a < s) : u[a]? = some 32 := by
  have hu : a < u.length := by have := h.2.1; omega
  have hx := List.getElem?_eq_getElem hu
  rw [hx]
  have hw := h.w (Nat.le_refl _) hlt
  unfold wAt at hw
  rw [hx] at hw
  simp only [isW, Bool.and_eq_false_iff, decide_eq_false_iff_not, ne_eq, Decidable.not_not] at hw
  rcases hw with e | e
  · rw [e]
  · exfalso
    have h4 := h.2.2.2
    rw [cut_cons hx hlt] at h4
    unfold endsN at h4
    rw [List.filter_cons] at h4
    rw [if_pos (by simpa using e)] at h4
    simp at h4
theorem wrdOf_nn {A u : List Int} (hA : ∀ z ∈ A, 0 ≤ z) (b : Bool) (p : Plc) : 0 ≤ (wrdOf A u b p).w ∧ 0 ≤ (wrdOf A u b p).g ∧ (wrdOf A u b p).w ≤ 1099511627776 := by
  have h1 := cutI_nn (wide_nn hA (cut u p.s p.t))
  have h2 := cutI_nn (adv_nn hA 32)
  refine ⟨h1.1, ?_, h1.2.2⟩
  show 0 ≤ gapOf A b p
  unfold gapOf
  split <;> omega
theorem wrds_nn {A u : List Int} (hA : ∀ z ∈ A, 0 ≤ z) (ps : List Plc) : NN (wrds A u ps) := by
  intro x hx
  cases ps with
  | nil => cases hx
  | cons p ps =>
    rcases List.mem_cons.1 hx with rfl | hx
    · exact wrdOf_nn hA true p
    · obtain ⟨q, _, rfl⟩ := List.mem_map.1 hx
      exact wrdOf_nn hA false q
theorem nxt_sum {A u : List Int} (hA : ∀ z ∈ A, 0 ≤ z) {a : Nat} {p : Plc} (h : Nxt u a p) (b : Bool) (hb : b = false → wAt u a = false) : (wrdOf A u b p).w + (wrdOf A u b p).g ≤ wideS A (cut u a p.t) := by
  rw [cut_split h.1.1 (Nat.le_of_lt h.2.1), wide_app]
  have h1 := cutI_nn (wide_nn hA (cut u p.s p.t))
  have h2 := cutI_nn (adv_nn hA 32)
  have h3 := wide_nn hA (cut u a p.s)
  have hw : (wrdOf A u b p).w = cutI (wideS A (cut u p.s p.t)) := rfl
  have hg : (wrdOf A u b p).g ≤ wideS A (cut u a p.s) := by
    show gapOf A b p ≤ _
    unfold gapOf
    split
    · rename_i hc
      have hlt : a < p.s := by
        rcases Nat.lt_or_ge a p.s with h4 | h4
        · exact h4
        · have e : a = p.s := by have := h.1.1; omega
          have := h.2.2.1.2 p.s (Nat.le_refl _) h.2.1
          rw [← e, hb hc.1] at this
          cases this
      have hgp := h.1
      rw [hc.2] at hgp
      rw [cut_cons (gap32 hgp hlt) hlt]
      have h5 := wide_nn hA (cut u (a + 1) p.s)
      have e : wideS A (32 :: cut u (a + 1) p.s) = adv A 32 + wideS A (cut u (a + 1) p.s) := by simp [wideS, advs]
      omega
    · exact h3
  omega
theorem chn_sum {A u : List Int} (hA : ∀ z ∈ A, 0 ≤ z) : ∀ (ps : List Plc) (a z : Nat), Chn u a ps z → wAt u a = false → sumI (ps.map (wrdOf A u false)) ≤ wideS A (cut u a z)
  | [], a, z, h, _ => by simp only [List.map_nil]; have := wide_nn hA (cut u a z); simp [sumI]; exact this
  | p :: ps, a, z, h, hw => by
    have ih := chn_sum hA ps p.t z h.2 h.1.2.2.2
    have h1 := nxt_sum hA h.1 false (fun _ => hw)
    have h2 := chn_len ps p.t z h.2
    rw [List.map_cons, sumI_cons, cut_split (b := p.t) (by have := h.1.1.1; have := h.1.2.1; omega) (by omega), wide_app]
    omega
theorem wrds_sum {A u : List Int} (hA : ∀ z ∈ A, 0 ≤ z) {ps : List Plc} (hp : Whl u ps) : sumI (wrds A u ps) ≤ wideS A u := by
  obtain ⟨z, n, hc, hg⟩ := hp
  have hz := hg.1
  have e : wideS A u = wideS A (cut u 0 z) + wideS A (cut u z u.length) := by
    rw [← wide_app, ← cut_split (Nat.zero_le _) hz]
    simp [cut]
  have h3 := wide_nn hA (cut u z u.length)
  have key : sumI (wrds A u ps) ≤ wideS A (cut u 0 z) := by
    cases ps with
    | nil => simp only [wrds]; have := wide_nn hA (cut u 0 z); simp [sumI]; exact this
    | cons p ps =>
      have h1 := nxt_sum hA hc.1 true (fun h => by cases h)
      have h2 := chn_sum hA ps p.t z hc.2 hc.1.2.2.2
      have h4 := chn_len ps p.t z hc.2
      simp only [wrds]
      rw [sumI_cons, cut_split (b := p.t) (Nat.zero_le _) (by omega), wide_app]
      omega
  omega
/-- What the statement says of advances at least 0. -/
theorem nonneg_all {A u : List Int} (hA : ∀ z ∈ A, 0 ≤ z) {ps : List Plc} (hp : Whl u ps) {rs : List Rg} (hr : RWhl (wrds A u ps) rs) : lst (wrds A u ps) ≤ grt (wrds A u ps) rs ∧ grt (wrds A u ps) rs ≤ cutI (wideS A u) := by
  have hn := wrds_nn (u := u) hA ps
  refine ⟨lst_le_grt hn hr, grt_le (cutI_nn (wide_nn hA u)).1 fun r _ => cutI_mono ?_⟩
  have h1 := (rowS_le (hn.subs r)).2
  have h2 := sumI_subs hn r
  have h3 := wrds_sum hA hp
  omega
end Go.Proofs.Ytnmfcbmdopmglaa
