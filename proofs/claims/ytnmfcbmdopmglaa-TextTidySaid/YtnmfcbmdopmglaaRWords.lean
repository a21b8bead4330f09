/-
  Contract of the document's Words.
-/
import Derived.Test.YtnmfcbmdopmglaaLetter
namespace Go.Proofs.Ytnmfcbmdopmglaa
open Go.RowKit
set_option linter.unusedVariables false

/-- Is the unit ahead of a place a word's? -/
def wPrev (u : List Int) : Nat → Bool
  | 0 => false
  | k + 1 => wAt u k
theorem letter_prev (U : Option Addr) (n c : Nat) (u : List Int) (k : Nat) (w : World) (hU : Hid (Sl u16E w U n c u)) (hu : Hid (∀ x ∈ u, U16 x)) (hk : k ≤ 1000000) :
    Calls Try.prog 40 #[.slice U n c, .int .i64 ((k : Int) - 1)] w fun e w' => e = .returned (.bool (wPrev u k)) ∧ w = w' := by
  cases k with
  | zero => exact letter_no U n c w
  | succ k => rw [show ((k + 1 : Nat) : Int) - 1 = (k : Int) by omega]; exact letter_h U n c u k w hU hu (by omega)

/-- The units from a to b, as a slice. -/
theorem Sl.sub {α : Type} {f : α → List Value} {size : Nat} {w : World} {U : Addr} {n c a b : Nat} {u : List α} (h : Sl f w (some U) n c u) (hf : ∀ x, (f x).length = size) (hab : a ≤ b) (hb : b ≤ n) : Sl f w (some (U.add (a * size))) (b - a) (c - a) ((u.take b).drop a) := by
  have hl := h.len
  have hcap := h.cap
  refine ⟨by simp; omega, by omega, (fun h => by cases h), fun hpos => ?_⟩
  simp only [List.length_drop, List.length_take] at hpos
  obtain ⟨a0, e, hB, hc⟩ := h.at_ (by omega)
  cases e
  refine ⟨_, rfl, by rw [add_block]; exact hB, fun j v hj => ?_⟩
  have h2 : (u.flatMap f)[a * size + j]? = some v := by
    have e1 : u = u.take a ++ ((u.take b).drop a ++ u.drop b) := by
      conv => lhs; rw [← List.take_append_drop b u]
      rw [← List.append_assoc]
      congr 1
      conv => lhs; rw [← List.take_append_drop a (u.take b)]
      rw [List.take_take, show min a b = a by omega]
    rw [e1, List.flatMap_append, List.flatMap_append, List.getElem?_append_right (by rw [flat_len hf, List.length_take, show min a u.length = a by omega]; omega), flat_len hf, List.length_take, show min a u.length = a by omega, show a * size + j - a * size = j by omega, List.getElem?_append_left (List.getElem?_eq_some_iff.1 hj).1]
    exact hj
  have := hc _ _ h2
  rw [← this]
  congr 1
  unfold Addr.add
  by_cases h0 : a * size = 0
  · simp [h0]
  · by_cases h1 : j = 0
    · subst h1; simp [h0]
    · simp [h0, h1, Nat.add_assoc]

/-- What a function answers that makes words. -/
def MadeWrds (w : World) (l : List Wrd) (b : Bool) (e : Ending) (w' : World) : Prop :=
  ∃ (E : Option Addr) (c : Nat), e = .returned (.tuple #[.slice E l.length c, .bool b]) ∧ Sl wrdE w' E l.length c l ∧ Below w.heap.size w w' ∧ New w.heap.size E

/-- What the loop keeps. -/
structure RWInv (w0 : World) (A u : List Int) (k : Nat) (ps : List Plc) (z : Nat) (v : Value) (b : Bool) (wr : World) : Prop where
  chn : Chn u 0 ps z
  pos : (1 ≤ k ∧ k < z ∧ Run u (k - 1) z) ∨ (z ≤ k ∧ ∃ m, Gap u z k m)
  row : GRow wrdE 58 5 w0 v (wrds A u ps) wr
  far : b = fars A u ps
theorem RWInv.start (w : World) (A u : List Int) : RWInv w A u 0 [] 0 (.slice none 0 0) false w := ⟨rfl, .inr ⟨Nat.le_refl _, 0, Gap.nil (Nat.zero_le _)⟩, GRow.start w, rfl⟩
theorem RWInv.stay {w0 wr : World} {A u : List Int} {k z : Nat} {ps : List Plc} {v : Value} {b : Bool} (h : RWInv w0 A u k ps z v b wr) (hk : k < u.length) (hc : wAt u k = false ∨ wPrev u k = true) : RWInv w0 A u (k + 1) ps z v b wr := by
  refine ⟨h.chn, ?_, h.row, h.far⟩
  rcases h.pos with ⟨h1, h2, h3⟩ | ⟨h1, m, h2⟩
  · by_cases e : k + 1 < z
    · exact .inl ⟨by omega, e, ⟨by omega, fun j hj hj2 => h3.2 j (by omega) hj2⟩⟩
    · have e : z = k + 1 := by omega
      subst e
      exact .inr ⟨Nat.le_refl _, 0, Gap.nil (by omega)⟩
  · have hw : wAt u k = false := by
      rcases hc with h | h
      · exact h
      · cases k with
        | zero => cases h
        | succ j =>
          by_cases e : z ≤ j
          · have := h2.w e (Nat.lt_succ_self j)
            change wAt u j = true at h
            rw [h] at this; cases this
          · have e : z = j + 1 := by omega
            subst e
            refine chn_end ps 0 _ h.chn (fun hn => ?_)
            subst hn
            have := h.chn
            cases this
    refine .inr ⟨by omega, _, h2.snoc (c := u[k]) (List.getElem?_eq_getElem hk) ?_⟩
    unfold wAt at hw
    rw [List.getElem?_eq_getElem hk] at hw
    exact hw
/-- A word begins here. -/
theorem RWInv.new {w0 wr : World} {A u : List Int} {k z : Nat} {ps : List Plc} {v : Value} {b : Bool} (h : RWInv w0 A u k ps z v b wr) (hw : wAt u k = true) (hp : wPrev u k = false) : z ≤ k ∧ ∃ m, Gap u z k m := by
  rcases h.pos with ⟨h1, h2, h3⟩ | h2
  · have := h3.2 (k - 1) (Nat.le_refl _) (by omega)
    cases k with
    | zero => omega
    | succ j => change wAt u j = false at hp; rw [show j + 1 - 1 = j by omega, hp] at this; cases this
  · exact h2
def hasSp (u : List Int) (a b : Nat) : Bool := (cut u a b).any fun c => decide (c = 32)
theorem hasSp_snoc {u : List Int} {a b : Nat} {c : Int} (hab : a ≤ b) (hb : u[b]? = some c) : hasSp u a (b + 1) = (hasSp u a b || decide (c = 32)) := by
  unfold hasSp
  rw [cut_snoc hab hb]
  simp
theorem hasSp_nil (u : List Int) (a : Nat) : hasSp u a a = false := by simp [hasSp, cut]
theorem endsCut_snoc {u : List Int} {a b : Nat} {c : Int} (hab : a ≤ b) (hb : u[b]? = some c) : endsN (cut u a (b + 1)) = endsN (cut u a b) + (if c = 10 then 1 else 0) := by rw [cut_snoc hab hb, endsN_snoc]
theorem endsCut_nil (u : List Int) (a : Nat) : endsN (cut u a a) = 0 := by simp [cut, endsN]
theorem gap_sp {u : List Int} {ps : List Plc} {z k m : Nat} (h : Chn u 0 ps z) (g : Gap u z k m) (hw : wAt u k = true) : (hasSp u z k && decide (m = 0) && decide (0 < ps.length)) = decide (ps.isEmpty = false ∧ m = 0) := by
  cases ps with
  | nil => simp
  | cons p ps =>
    by_cases hm : m = 0
    · subst hm
      have hz := chn_end (p :: ps) 0 z h (by simp)
      have hlt : z < k := by
        rcases Nat.lt_or_ge z k with h1 | h1
        · exact h1
        · have : z = k := by have := g.1; omega
          subst this; rw [hz] at hw; cases hw
      have hu : z < u.length := by have := g.2.1; omega
      have h32 : u[z] = 32 := by
        unfold wAt at hz
        rw [List.getElem?_eq_getElem hu] at hz
        simp only [isW, Bool.and_eq_false_iff, decide_eq_false_iff_not, ne_eq, Decidable.not_not] at hz
        rcases hz with h | h
        · exact h
        · exfalso
          have := g.2.2.2
          have hmem : u[z] ∈ cut u z k := by
            unfold cut
            rw [List.mem_iff_getElem?]
            exact ⟨0, by rw [List.getElem?_drop, List.getElem?_take]; simp [hlt, List.getElem?_eq_getElem hu]⟩
          unfold endsN at this
          have h2 : u[z] ∈ (cut u z k).filter fun c => decide (c = 10) := List.mem_filter.2 ⟨hmem, by simpa using h⟩
          rw [List.eq_nil_of_length_eq_zero this] at h2
          cases h2
      have hs : hasSp u z k = true := by
        unfold hasSp
        rw [List.any_eq_true]
        refine ⟨u[z], ?_, by simpa using h32⟩
        unfold cut
        rw [List.mem_iff_getElem?]
        exact ⟨0, by rw [List.getElem?_drop, List.getElem?_take]; simp [hlt, List.getElem?_eq_getElem hu]⟩
      simp [hs]
    · simp [hm]

set_option maxRecDepth 100000 in
/-- A slice of a slice, as a run. -/
theorem slice_u16 (U : Addr) (n c a b : Nat) (hab : a ≤ b) (hb : b ≤ c) (hac : a < c) (w : World) :
    (Instr.slice 36 (.slice (some U) n c) (some (.int .i64 (a : Int))) (some (.int .i64 (b : Int))) none).run Try.prog w = .ok (.slice (some (U.add a)) (b - a) (c - a)) w := by
  rw [run_slice_lh (P := Try.prog) (w := w) 36 (some U) n c Try.underlying36 .i64 .i64 (a : Int) (b : Int) (by omega) (by omega) (by omega)]
  have h1 : ¬ c = a := by omega
  have hs : (sizeOf (Try.prog.elem 36)).run Try.prog w = .ok 1 w := by kernel_rfl
  rw [hs]
  simp [Result.andThen, sliced, h1]
end Go.Proofs.Ytnmfcbmdopmglaa
