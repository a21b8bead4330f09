/-
  What the loops of package tree keep that fill a row of numbers, one for each node; who is the last one below.
-/
import Derived.Test.YtcgblbbadbkdgaaCheck
namespace Go.Proofs.Ytcgblbbadbkdgaa
open Go.RowKit
set_option linter.unusedVariables false

theorem TBox.set {w0 w : World} {g q : Nat} {t : TreeV} (h : TBox w0 g t w) (hq : w0.heap.size ≤ q) (hne : q ≠ g) (i : Nat) (u : Value) : TBox w0 g t (w.setCell ⟨q, i, none⟩ u) :=
  ⟨h.at0, h.box.off hne i u, h.hb.setCell hq _, h.ge⟩
structure RowInv (w0 : World) (g : Nat) (t : TreeV) (q : Nat) (F : List Int) (wr : World) : Prop where
  box : TBox w0 g t wr
  row : IBox wr q F
  ge : w0.heap.size ≤ q
  ne : q ≠ g
  len : F.length = t.nn
theorem RowInv.below {w0 wr w' : World} {g q : Nat} {t : TreeV} {F : List Int} (h : RowInv w0 g t q F wr) (hb : Below wr.heap.size wr w') : RowInv w0 g t q F w' := ⟨h.box.below hb, h.row.below hb, h.ge, h.ne, h.len⟩
theorem RowInv.set {w0 wr : World} {g q : Nat} {t : TreeV} {F : List Int} (h : RowInv w0 g t q F wr) {i : Nat} (hi : i < t.nn) (z : Int) : RowInv w0 g t q (F.set i z) (wr.setCell ⟨q, i, none⟩ (.int .i64 z)) :=
  ⟨h.box.set h.ge h.ne i _, h.row.set_ (by rw [h.len]; exact hi) z, h.ge, h.ne, by rw [List.length_set, h.len]⟩
theorem RowInv.start {w0 w : World} {g : Nat} {t : TreeV} (h : TBox w0 g t w) (z : Int) (e : TypeId) : RowInv w0 g t w.heap.size (List.replicate t.nn z) (w.alloc (madeObj (.int .i64 z) t.nn e)) :=
  ⟨h.below ((Below.refl _ _).alloc (Nat.le_refl _) _), IBox.made w t.nn z e, h.hb.size, by have := h.box.lt; omega, by simp⟩
theorem RowInv.at_ {w0 wr : World} {g q : Nat} {t : TreeV} {F : List Int} (h : RowInv w0 g t q F wr) {i : Nat} (hi : i < t.nn) : ∃ z, F[i]? = some z ∧ wr.cell? ⟨q, i, none⟩ = some (.int .i64 z) ∧ wr.frozen? ⟨q, i, none⟩ = false := by
  have hl : i < F.length := by rw [h.len]; exact hi
  exact ⟨F[i], List.getElem?_eq_getElem hl, h.row.at_ (List.getElem?_eq_getElem hl), h.row.free_ hl⟩
/-- What a function that makes such a row answers. -/
def MadeI (w : World) (n : Nat) (F : Nat → Int) (e : Ending) (w' : World) : Prop :=
  ∃ q, e = .returned (.slice (some ⟨q, 0, none⟩) n n) ∧ IBox w' q ((List.range n).map F) ∧ w.heap.size ≤ q ∧ Below w.heap.size w w'
theorem RowInv.made {w0 wr : World} {g q : Nat} {t : TreeV} {F : List Int} {f : Nat → Int} (h : RowInv w0 g t q F wr) (hf : ∀ i, i < t.nn → F[i]? = some (f i)) : MadeI w0 t.nn f (.returned (.slice (some ⟨q, 0, none⟩) t.nn t.nn)) wr := by
  have e : F = (List.range t.nn).map f := by
    apply List.ext_getElem?
    intro i
    by_cases hi : i < t.nn
    · rw [hf i hi]; simp [hi]
    · rw [List.getElem?_eq_none (by rw [h.len]; omega), List.getElem?_eq_none (by simp; omega)]
  exact ⟨q, rfl, by rw [← e]; exact h.row, h.ge, h.box.hb⟩

/-- The nodes at or below q, as far as those behind i tell. -/
def Via (ns : List NodeV) (n i q k : Nat) : Prop := k < n ∧ (k = q ∨ ∃ c, i < c ∧ parI ns c = (q : Int) ∧ c ∈ chain ns k)
def IsMx (P : Nat → Prop) (m : Nat) : Prop := P m ∧ ∀ k, P k → k ≤ m
theorem IsMx.cong {P Q : Nat → Prop} {m : Nat} (h : IsMx P m) (e : ∀ k, P k ↔ Q k) : IsMx Q m := ⟨(e m).mp h.1, fun k hk => h.2 k ((e k).mpr hk)⟩
theorem chain_self (ns : List NodeV) (i : Nat) : i ∈ chain ns i := by obtain ⟨r, e⟩ := chain_head ns i; rw [e]; simp
theorem par_mem {ns : List NodeV} {c q k : Nat} (h : parI ns c = (q : Int)) (hc : c ∈ chain ns k) : q ∈ chain ns k := chain_trans hc (by rw [chain_some h]; exact List.mem_cons_of_mem _ (chain_self ns q))
theorem via_last {ns : List NodeV} {n i q : Nat} (h : n ≤ i + 1) (hq : q < n) : IsMx (Via ns n i q) q := by
  refine ⟨⟨hq, .inl rfl⟩, fun k hk => ?_⟩
  rcases hk.2 with e | ⟨c, h1, h2, h3⟩
  · omega
  · have := chain_le ns k c h3
    have := hk.1
    omega
theorem via_own {ns : List NodeV} {n i k : Nat} : Via ns n i i k ↔ k < n ∧ i ∈ chain ns k := by
  constructor
  · rintro ⟨hk, rfl | ⟨c, h1, h2, h3⟩⟩
    · exact ⟨hk, chain_self ns _⟩
    · exact ⟨hk, par_mem h2 h3⟩
  · rintro ⟨hk, hm⟩
    refine ⟨hk, ?_⟩
    by_cases e : k = i
    · exact .inl e
    · obtain ⟨c, h1, h2, h3⟩ := chain_pred k hm (Ne.symm e)
      exact .inr ⟨c, h3, h2, h1⟩
theorem via_all {ns : List NodeV} {n q k : Nat} : Via ns n 0 q k ↔ k < n ∧ q ∈ chain ns k := by
  constructor
  · rintro ⟨hk, rfl | ⟨c, h1, h2, h3⟩⟩
    · exact ⟨hk, chain_self ns _⟩
    · exact ⟨hk, par_mem h2 h3⟩
  · rintro ⟨hk, hm⟩
    refine ⟨hk, ?_⟩
    by_cases e : k = q
    · exact .inl e
    · obtain ⟨c, h1, h2, h3⟩ := chain_pred k hm (Ne.symm e)
      exact .inr ⟨c, by omega, h2, h1⟩
theorem via_same {ns : List NodeV} {n i q : Nat} (h : parI ns (i + 1) ≠ (q : Int)) (k : Nat) : Via ns n (i + 1) q k ↔ Via ns n i q k := by
  constructor
  · rintro ⟨hk, e | ⟨c, h1, h2, h3⟩⟩
    · exact ⟨hk, .inl e⟩
    · exact ⟨hk, .inr ⟨c, by omega, h2, h3⟩⟩
  · rintro ⟨hk, e | ⟨c, h1, h2, h3⟩⟩
    · exact ⟨hk, .inl e⟩
    · refine ⟨hk, .inr ⟨c, ?_, h2, h3⟩⟩
      by_cases e : c = i + 1
      · subst e; exact absurd h2 h
      · omega
theorem via_more {ns : List NodeV} {n i p a b : Nat} (h : parI ns (i + 1) = (p : Int)) (ha : IsMx (Via ns n (i + 1) p) a) (hb : IsMx (Via ns n (i + 1) (i + 1)) b) : IsMx (Via ns n i p) (max a b) := by
  have key : ∀ k, Via ns n i p k ↔ Via ns n (i + 1) p k ∨ Via ns n (i + 1) (i + 1) k := by
    intro k
    rw [via_own]
    constructor
    · rintro ⟨hk, e | ⟨c, h1, h2, h3⟩⟩
      · exact .inl ⟨hk, .inl e⟩
      · by_cases e : c = i + 1
        · subst e; exact .inr ⟨hk, h3⟩
        · exact .inl ⟨hk, .inr ⟨c, by omega, h2, h3⟩⟩
    · rintro (⟨hk, e | ⟨c, h1, h2, h3⟩⟩ | ⟨hk, h3⟩)
      · exact ⟨hk, .inl e⟩
      · exact ⟨hk, .inr ⟨c, by omega, h2, h3⟩⟩
      · exact ⟨hk, .inr ⟨i + 1, by omega, h, h3⟩⟩
  refine ⟨(key _).mpr ?_, fun k hk => ?_⟩
  · rcases Nat.le_total a b with hh | hh
    · rw [Nat.max_eq_right hh]; exact .inr hb.1
    · rw [Nat.max_eq_left hh]; exact .inl ha.1
  · rcases (key k).mp hk with hh | hh
    · have := ha.2 k hh; omega
    · have := hb.2 k hh; omega
theorem lastN_mx (ns : List NodeV) (i : Nat) : ∀ m, IsMx (fun k => k = i ∨ (k < m ∧ i < k ∧ i ∈ chain ns k)) (lastN ns i m) := by
  intro m
  induction m with
  | zero => exact ⟨.inl rfl, fun k hk => by rcases hk with e | e; exact Nat.le_of_eq e; omega⟩
  | succ m ih =>
    have e : lastN ns i (m + 1) = if decide (i < m) && (chain ns m).contains i then m else lastN ns i m := by
      unfold lastN
      rw [List.range_succ, List.foldl_append]
      rfl
    rw [e]
    by_cases h : i < m ∧ i ∈ chain ns m
    · rw [if_pos (by simpa using h)]
      refine ⟨.inr ⟨by omega, h.1, h.2⟩, fun k hk => ?_⟩
      rcases hk with e | ⟨e, _⟩ <;> omega
    · rw [if_neg (by simpa using h)]
      refine ih.cong fun k => ?_
      constructor
      · rintro (e | ⟨h1, h2, h3⟩)
        · exact .inl e
        · exact .inr ⟨by omega, h2, h3⟩
      · rintro (e | ⟨h1, h2, h3⟩)
        · exact .inl e
        · refine .inr ⟨?_, h2, h3⟩
          by_cases e : k = m
          · subst e; exact absurd ⟨h2, h3⟩ h
          · omega
theorem IsMx.uniq {P : Nat → Prop} {a b : Nat} (h : IsMx P a) (k : IsMx P b) : a = b := Nat.le_antisymm (k.2 a h.1) (h.2 b k.1)
theorem lastN_is {ns : List NodeV} {n q m : Nat} (hq : q < n) (h : IsMx (Via ns n 0 q) m) : m = lastN ns q n := by
  refine h.uniq ((lastN_mx ns q n).cong fun k => ?_)
  rw [via_all]
  constructor
  · rintro (e | ⟨h1, h2, h3⟩)
    · subst e; exact ⟨hq, chain_self ns _⟩
    · exact ⟨h1, h3⟩
  · rintro ⟨h1, h2⟩
    by_cases e : k = q
    · exact .inl e
    · have := chain_le ns k q h2
      exact .inr ⟨h1, by omega, h2⟩
theorem lastN_own {ns : List NodeV} {n q : Nat} (hq : q < n) : IsMx (fun k => k < n ∧ q ∈ chain ns k) (lastN ns q n) := by
  refine (lastN_mx ns q n).cong fun k => ?_
  constructor
  · rintro (e | ⟨h1, h2, h3⟩)
    · subst e; exact ⟨hq, chain_self ns _⟩
    · exact ⟨h1, h3⟩
  · rintro ⟨h1, h2⟩
    by_cases e : k = q
    · exact .inl e
    · have := chain_le ns k q h2
      exact .inr ⟨h1, by omega, h2⟩
end Go.Proofs.Ytcgblbbadbkdgaa
