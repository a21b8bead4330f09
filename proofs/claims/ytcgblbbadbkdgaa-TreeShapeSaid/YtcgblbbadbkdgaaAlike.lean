/-
  Trees that differ in where their units lie alone: Check says the same of both.
-/
import Derived.Test.YtcgblbbadbkdgaaHeads
import Derived.Test.YtcgblbbadbkdgaaSame4
import Derived.Test.YtcgblbbadbkdgaaGrow5
namespace Go.Proofs.Ytcgblbbadbkdgaa
open Go.RowKit
set_option linter.unusedVariables false

/-- The node, its units nowhere. -/
def strip (n : NodeV) : NodeV := ⟨n.p, n.s.moved none 0⟩
theorem strip_at {ns : List NodeV} {i : Nat} {x : NodeV} (h : ns[i]? = some x) : (ns.map strip)[i]? = some (strip x) := by rw [List.getElem?_map, h]; rfl
theorem strip_none {ns : List NodeV} {i : Nat} (h : ns[i]? = none) : (ns.map strip)[i]? = none := by rw [List.getElem?_map, h]; rfl
theorem par_strip (ns : List NodeV) (i : Nat) : parI (ns.map strip) i = parI ns i := by
  cases h : ns[i]? with
  | none => unfold parI; rw [strip_none h, h]
  | some x => rw [parI_at (strip_at h), parI_at h]; rfl
theorem kind_strip (ns : List NodeV) (i : Nat) : kindAt (ns.map strip) i = kindAt ns i := by
  cases h : ns[i]? with
  | none => unfold kindAt; rw [strip_none h, h]
  | some x => rw [kindAt_at (strip_at h), kindAt_at h]; rfl
theorem chain_strip (ns : List NodeV) : ∀ i, chain (ns.map strip) i = chain ns i := by
  intro i
  induction i using Nat.strongRecOn with
  | _ i ih =>
    rcases parI_cases ns i with hp | ⟨p, hp, hlt⟩
    · rw [chain_none hp, chain_none ((par_strip ns i).trans hp)]
    · rw [chain_some hp, chain_some ((par_strip ns i).trans hp), ih p hlt]
theorem first_strip (ns : List NodeV) (p i : Nat) : firstI (ns.map strip) p i = firstI ns p i := by
  unfold firstI
  rw [find_cong (p := fun k => parI (ns.map strip) k == (p : Int)) (q := fun k => parI ns k == (p : Int)) _ fun k _ => by rw [par_strip]]
theorem node_strip (ns : List NodeV) (i : Nat) : nodeI (ns.map strip) i = nodeI ns i := by
  cases h : ns[i]? with
  | none => unfold nodeI; rw [strip_none h, h]
  | some x =>
    rw [nodeI_at (strip_at h), nodeI_at h]
    have e1 : preB (ns.map strip) i (strip x).p = preB ns i x.p := by unfold preB; rw [chain_strip]; rfl
    have e2 : dep (ns.map strip) i = dep ns i := by unfold dep; rw [chain_strip]
    have e3 : ∀ d, aloneI (strip x).s d = aloneI x.s d := fun d => rfl
    have e4 : ∀ p, kinB (ns.map strip) p i (strip x).s = kinB ns p i x.s := fun p => by unfold kinB; rw [kind_strip, first_strip, kind_strip]; rfl
    rw [e1, e2, e3, e4]
    rfl
theorem check_strip (ns : List NodeV) (av : List Int) (view : Int) : checkI (ns.map strip) av view = checkI ns av view := by
  have hw : wrongN (ns.map strip) = wrongN ns := by
    unfold wrongN
    rw [List.length_map]
    exact find_cong _ fun k _ => by rw [node_strip]
  unfold checkI
  rw [hw, List.length_map]
  split
  · rfl
  · cases wrongN ns with
    | none => rfl
    | some i => simp only [node_strip]
theorem check_alike {ns ms : List NodeV} (av : List Int) (view : Int) (h : ns.map strip = ms.map strip) : checkI ns av view = checkI ms av view := by rw [← check_strip ns, h, check_strip]

theorem Sl.grown {α : Type} {f : α → List Value} {w w' : World} {A : Option Addr} {n c : Nat} {l : List α} {row : Option Nat} (h : Sl f w A n c l) (hG : w.grownBy w' row) (hr : ∀ a, A = some a → some a.block ≠ row) : Sl f w' A n c l :=
  ⟨h.len, h.cap, h.nil, fun hl => by
    obtain ⟨a, e, hb, hc⟩ := h.at_ hl
    refine ⟨a, e, Nat.lt_of_lt_of_le hb hG.size, fun j u hu => ?_⟩
    exact hG.cell (hc j u hu) (by rw [add_block]; exact hr a e)⟩
/-- A node and its copy: the units' rows say the same; the copy's lies in none of these blocks. -/
def Twin (w0 w : World) (lo tb : Nat) (row : Option Nat) (x y : NodeV) : Prop :=
  ∃ A c l, y = ⟨x.p, x.s.moved A c⟩ ∧ Sl u16E w A x.s.un c l ∧ Sl u16E w0 x.s.ua x.s.un x.s.uc l ∧ ∀ a, A = some a → a.block ≠ tb ∧ some a.block ≠ row ∧ a.block < w.heap.size ∧ lo ≤ a.block
theorem Twin.strip {w0 w : World} {lo tb : Nat} {row : Option Nat} {x y : NodeV} (h : Twin w0 w lo tb row x y) : strip x = strip y := by
  obtain ⟨A, c, l, rfl, _⟩ := h; rfl
/-- What Copy's loop keeps. -/
structure CopyInv (w0 V1 : World) (g tb : Nat) (t : TreeV) (B : Option Addr) (cB : Nat) (v : Value) (ms : List NodeV) (wr : World) : Prop where
  box : TBox w0 g t wr
  grow : GrowT V1 tb v [.slice B t.an cB, .int .i64 t.view] ms wr
  adv : Sl intE wr B t.an cB t.av
  advn : ∀ a, B = some a → a.block ≠ tb ∧ some a.block ≠ v.ownBlock ∧ a.block < wr.heap.size ∧ V1.heap.size ≤ a.block
  twin : ∀ (j : Nat) (y : NodeV), ms[j]? = some y → ∃ x, t.ns[j]? = some x ∧ Twin w0 wr V1.heap.size tb v.ownBlock x y
  le : g < V1.heap.size ∧ w0.heap.size ≤ V1.heap.size
theorem CopyInv.strips {w0 V1 wr : World} {g tb : Nat} {t : TreeV} {B : Option Addr} {cB : Nat} {v : Value} {ms : List NodeV} (h : CopyInv w0 V1 g tb t B cB v ms wr) : ms.map strip = (t.ns.take ms.length).map strip := by
  apply List.ext_getElem?
  intro j
  cases hy : ms[j]? with
  | none =>
    have : ms.length ≤ j := List.getElem?_eq_none_iff.mp hy
    rw [strip_none hy, strip_none]
    rw [List.getElem?_take, if_neg (by omega)]
  | some y =>
    obtain ⟨x, hx, ht⟩ := h.twin j y hy
    have := (List.getElem?_eq_some_iff.mp hy).1
    rw [strip_at hy, strip_at (x := x) (by rw [List.getElem?_take, if_pos this]; exact hx), ht.strip]
theorem CopyInv.below {w0 V1 wr w' : World} {g tb : Nat} {t : TreeV} {B : Option Addr} {cB : Nat} {v : Value} {ms : List NodeV} (h : CopyInv w0 V1 g tb t B cB v ms wr) (hb : Below wr.heap.size wr w') : CopyInv w0 V1 g tb t B cB v ms w' :=
  ⟨h.box.below hb, h.grow.below hb, h.adv.below hb, fun a ha => ⟨(h.advn a ha).1, (h.advn a ha).2.1, Nat.lt_of_lt_of_le (h.advn a ha).2.2.1 hb.size, (h.advn a ha).2.2.2⟩, fun j y hy => by
    obtain ⟨x, hx, A, c, l, e, h1, h2, h3⟩ := h.twin j y hy
    exact ⟨x, hx, A, c, l, e, h1.below hb, h2, fun a ha => ⟨(h3 a ha).1, (h3 a ha).2.1, Nat.lt_of_lt_of_le (h3 a ha).2.2.1 hb.size, (h3 a ha).2.2.2⟩⟩, h.le⟩
theorem CopyInv.put {w0 V1 wr w' : World} {g tb : Nat} {t : TreeV} {B : Option Addr} {cB : Nat} {v v' : Value} {ms : List NodeV} {x y : NodeV} (h : CopyInv w0 V1 g tb t B cB v ms wr) (o : Obj) (hx : t.ns[ms.length]? = some x) (hy : Twin w0 wr V1.heap.size tb v.ownBlock x y)
    (h3 : w'.ownsRow V1.heap.size 49 44 v' (ms.length + 1) ((ms ++ [y]).flatMap nodeE)) (h4 : (wr.alloc o).grownBy w' v.ownBlock) (h5 : v'.ownBlock = v.ownBlock ∨ v'.ownBlock = some (wr.alloc o).heap.size) :
    CopyInv w0 V1 g tb t B cB v' (ms ++ [y]) (w'.setCell ⟨tb, 0, none⟩ v') ∧ w'.cell? ⟨tb, 0, none⟩ = some v ∧ w'.frozen? ⟨tb, 0, none⟩ = false ∧ tb < w'.heap.size := by
  have ha := (Below.refl wr.heap.size wr).alloc (Nat.le_refl _) o
  have hk := h.below ha
  obtain ⟨hG, c0, f0, lt0⟩ := h.grow.put o h3 h4 h5
  have hbut : But [tb] w' (w'.setCell ⟨tb, 0, none⟩ v') := (But.refl _ _).set tb 0 (.inl (by simp)) _
  have hsz : (w'.setCell ⟨tb, 0, none⟩ v').heap.size = w'.heap.size := by simp [World.setCell]
  have hgs := h4.size
  have far : ∀ b : Nat, b < wr.heap.size → some b ≠ v.ownBlock → some b ≠ v'.ownBlock := fun b h1 h2 => by
    rcases h5 with e | e
    · rw [e]; exact h2
    · rw [e]; intro e2; simp at e2; omega
  have hge : ∀ k, v.ownBlock = some k → V1.heap.size ≤ k := fun k hk => (h.grow.own.lt k hk).1
  have hbel : Below V1.heap.size wr (w'.setCell ⟨tb, 0, none⟩ v') :=
    ((((Below.refl V1.heap.size wr).alloc h.grow.hb.size o).grown h4 (by have := h.grow.hb.size; have := ha.size; omega) hge).setCell h.grow.ge _)
  have keep : ∀ {α : Type} {f : α → List Value} {A : Option Addr} {n c : Nat} {l : List α}, Sl f wr A n c l → (∀ a, A = some a → a.block ≠ tb ∧ some a.block ≠ v.ownBlock ∧ a.block < wr.heap.size ∧ V1.heap.size ≤ a.block) → Sl f (w'.setCell ⟨tb, 0, none⟩ v') A n c l :=
    fun hS hA => ((hS.below ha).grown h4 (fun a e => (hA a e).2.1)).but hbut (fun a e => by simpa using (hA a e).1)
  refine ⟨⟨⟨h.box.at0, ?_, h.box.hb.trans (hbel.mono h.le.2), h.box.ge⟩, hG, keep h.adv h.advn, fun a e => ⟨(h.advn a e).1, far _ (h.advn a e).2.2.1 (h.advn a e).2.1, ?_, (h.advn a e).2.2.2⟩, fun j z hz => ?_, h.le⟩, c0, f0, lt0⟩
  · exact h.box.box.keep hbel h.le.1
  · have := (h.advn a e).2.2.1
    have := ha.size
    omega
  · have old : ∀ z x2, Twin w0 wr V1.heap.size tb v.ownBlock x2 z → Twin w0 (w'.setCell ⟨tb, 0, none⟩ v') V1.heap.size tb v'.ownBlock x2 z := fun z x2 hT => by
      obtain ⟨A, c, l, e, k1, k2, k3⟩ := hT
      exact ⟨A, c, l, e, keep k1 k3, k2, fun a ea => ⟨(k3 a ea).1, far _ (k3 a ea).2.2.1 (k3 a ea).2.1, by have := (k3 a ea).2.2.1; have := ha.size; omega, (k3 a ea).2.2.2⟩⟩
    by_cases hj : j < ms.length
    · rw [List.getElem?_append_left hj] at hz
      obtain ⟨x2, hx2, hT⟩ := h.twin j z hz
      exact ⟨x2, hx2, old z x2 hT⟩
    · have hj2 : j = ms.length := by
        have := (List.getElem?_eq_some_iff.mp hz).1
        simp at this
        omega
      subst hj2
      simp at hz
      subst hz
      exact ⟨x, hx, old _ x hy⟩
/-- What a copy is: the same nodes, their units' rows say the same. -/
structure CopyOf (w w' : World) (ns ms : List NodeV) : Prop where
  len : ms.length = ns.length
  twin : ∀ (j : Nat) (y : NodeV), ms[j]? = some y → ∃ x A c l, ns[j]? = some x ∧ y = ⟨x.p, x.s.moved A c⟩ ∧ Sl u16E w' A x.s.un c l ∧ Sl u16E w x.s.ua x.s.un x.s.uc l
theorem CopyOf.strips {w w' : World} {ns ms : List NodeV} (h : CopyOf w w' ns ms) : ns.map strip = ms.map strip := by
  apply List.ext_getElem?
  intro j
  cases hy : ms[j]? with
  | none =>
    have h1 : ms.length ≤ j := List.getElem?_eq_none_iff.mp hy
    rw [strip_none hy, strip_none (List.getElem?_eq_none (by rw [← h.len]; exact h1))]
  | some y =>
    obtain ⟨x, A, c, l, hx, e, _⟩ := h.twin j y hy
    rw [strip_at hy, strip_at hx, e]
    rfl
theorem CopyOf.below {w w' w2 : World} {ns ms : List NodeV} (h : CopyOf w w' ns ms) (hb : Below w'.heap.size w' w2) : CopyOf w w2 ns ms := ⟨h.len, fun j y hy => by
  obtain ⟨x, A, c, l, hx, e, h1, h2⟩ := h.twin j y hy
  exact ⟨x, A, c, l, hx, e, h1.below hb, h2⟩⟩
/-- Behind the loop, where the result's cell is laid. -/
theorem CopyInv.done {w0 V1 wr w' : World} {g tb rb : Nat} {t : TreeV} {B : Option Addr} {cB : Nat} {v : Value} {ms : List NodeV} (h : CopyInv w0 V1 g tb t B cB v ms wr) (hl : ms.length = t.nn) (hb : But [rb] wr w') (hr : rb < V1.heap.size) :
    ∃ A c, v = .slice A t.nn c ∧ TreeAt w' ⟨A, t.nn, c, ms, B, t.an, cB, t.av, t.view⟩ ∧ CopyOf w0 w' t.ns ms := by
  obtain ⟨A, c, e, hS, hN⟩ := h.grow.sl
  rw [hl] at e hS
  refine ⟨A, c, e, ⟨hS.but hb (fun a ea => by have := hN a ea; simp; omega), h.adv.but hb (fun a ea => by have := (h.advn a ea).2.2.2; simp; omega)⟩, ⟨by rw [hl]; exact h.box.at0.nodes.len, fun j y hy => ?_⟩⟩
  obtain ⟨x, hx, A1, c1, l, ey, h1, h2, h3⟩ := h.twin j y hy
  exact ⟨x, A1, c1, l, hx, ey, h1.but hb (fun a ea => by have := (h3 a ea).2.2.2; simp; omega), h2⟩
end Go.Proofs.Ytcgblbbadbkdgaa
