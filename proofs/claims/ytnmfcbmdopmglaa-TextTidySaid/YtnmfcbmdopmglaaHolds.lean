/-
  Slices whose elements are of any type, each of so many cells: what their address leads to, as a list; what is built, made, appended to.
-/
import Derived.Test.YtnmfcbmdopmglaaBox
import Derived.Test.YtnmfcbmdopmglaaCore
import Derived.Laws.AppendOwnNone
import Derived.Laws.OwnMore
import Derived.Laws.MakeOwn
import Derived.Maps.AppendAt
import Derived.Carry
namespace Go.Proofs.Ytnmfcbmdopmglaa
open Go.RowKit

/-- What a slice's address leads to: the elements l, each as the cells that f says. -/
def Holds {α : Type} (f : α → List Value) (w : World) (B : Nat) (A : Option Addr) (l : List α) : Prop :=
  0 < l.length → ∃ a, A = some a ∧ a.block < B ∧ ∀ j u, (l.flatMap f)[j]? = some u → w.cell? (a.add j) = some u

theorem flat_len {α : Type} {f : α → List Value} {size : Nat} (hf : ∀ x, (f x).length = size) : ∀ l : List α, (l.flatMap f).length = l.length * size
  | [] => by simp
  | x :: l => by simp only [List.flatMap_cons, List.length_append, hf, flat_len hf l, List.length_cons]; rw [Nat.add_mul]; omega

theorem flat_get {α : Type} {f : α → List Value} {size : Nat} (hf : ∀ x, (f x).length = size) : ∀ (l : List α) (i r : Nat) (x : α) (u : Value), l[i]? = some x → (f x)[r]? = some u → (l.flatMap f)[i * size + r]? = some u
  | [], i, r, x, u, hx, _ => by simp at hx
  | y :: l, 0, r, x, u, hx, hu => by
    simp only [List.getElem?_cons_zero, Option.some.injEq] at hx
    subst hx
    have hr : r < (f y).length := (List.getElem?_eq_some_iff.1 hu).1
    rw [List.flatMap_cons, Nat.zero_mul, Nat.zero_add, List.getElem?_append_left hr, hu]
  | y :: l, i + 1, r, x, u, hx, hu => by
    rw [List.flatMap_cons, List.getElem?_append_right (by rw [hf, Nat.add_mul]; omega), hf, show (i + 1) * size + r - size = i * size + r by rw [Nat.add_mul]; omega]
    exact flat_get hf l i r x u (by simpa using hx) hu

section
variable {α : Type} {f : α → List Value} {w w' : World} {B B' : Nat} {A : Option Addr} {l : List α}
theorem Holds.keep (h : Holds f w B A l) (hb : Below B w w') : Holds f w' B A l := fun hl => by
  obtain ⟨a, e, hB, hc⟩ := h hl
  exact ⟨a, e, hB, fun j u hu => (hb.cell (p := a.add j) (by rw [add_block]; exact hB)).trans (hc j u hu)⟩
theorem Holds.more (h : Holds f w B A l) (hB : B ≤ B') : Holds f w B' A l := fun hl => by
  obtain ⟨a, e, hb, hc⟩ := h hl
  exact ⟨a, e, Nat.lt_of_lt_of_le hb hB, hc⟩
theorem Holds.below (h : Holds f w w.heap.size A l) (hb : Below w.heap.size w w') : Holds f w' w'.heap.size A l := (h.keep hb).more hb.size
theorem Holds.get {size : Nat} (h : Holds f w B A l) (hf : ∀ x, (f x).length = size) {i : Nat} {x : α} (hx : l[i]? = some x) :
    ∃ a, A = some a ∧ a.block < B ∧ ∀ r u, (f x)[r]? = some u → w.cell? (a.add (i * size + r)) = some u := by
  obtain ⟨a, e, hb, hc⟩ := h (by have := (List.getElem?_eq_some_iff.1 hx).1; omega)
  exact ⟨a, e, hb, fun r u hu => hc _ u (flat_get hf l i r x u hx hu)⟩
theorem Holds.nil_ : Holds f w B A [] := fun h => by simp at h
theorem Holds.lit (w : World) (l : List α) (t : TypeId) : Holds f (w.alloc (.cells (l.flatMap f).toArray t)) (w.alloc (.cells (l.flatMap f).toArray t)).heap.size (some ⟨w.heap.size, 0, none⟩) l := by
  refine fun _ => ⟨_, rfl, by simp, fun j u hu => ?_⟩
  have e : (Addr.add ⟨w.heap.size, 0, none⟩ j) = ⟨w.heap.size, j, none⟩ := by
    unfold Addr.add; by_cases h : j = 0 <;> simp [h]
  rw [e, World.cell?_alloc_new]
  simpa using hu
end

/-- Where a slice lies that the call has made. -/
def New (B : Nat) (A : Option Addr) : Prop := ∀ a, A = some a → B ≤ a.block
theorem New.mono {B C : Nat} {A : Option Addr} (h : New B A) (hC : C ≤ B) : New C A := fun a e => Nat.le_trans hC (h a e)

/-- A slice of the elements l. -/
structure Sl {α : Type} (f : α → List Value) (w : World) (A : Option Addr) (n c : Nat) (l : List α) : Prop where
  len : n = l.length
  cap : n ≤ c
  nil : A = none → n = 0 ∧ c = 0
  at_ : Holds f w w.heap.size A l

section
variable {α : Type} {f : α → List Value} {w w' : World} {A : Option Addr} {n c : Nat} {l : List α}
theorem Sl.below (h : Sl f w A n c l) (hb : Below w.heap.size w w') : Sl f w' A n c l := ⟨h.len, h.cap, h.nil, h.at_.below hb⟩
theorem Sl.keep_ {W : World} (h : Sl f W A n c l) (hb : Below W.heap.size W w) : Sl f w A n c l := ⟨h.len, h.cap, h.nil, h.at_.below hb⟩
theorem Sl.none_ (w : World) : Sl f w none 0 0 ([] : List α) := ⟨rfl, Nat.le_refl _, fun _ => ⟨rfl, rfl⟩, Holds.nil_⟩
theorem Sl.lit (w : World) (l : List α) (t : TypeId) : Sl f (w.alloc (.cells (l.flatMap f).toArray t)) (some ⟨w.heap.size, 0, none⟩) l.length l.length l :=
  ⟨rfl, Nat.le_refl _, (fun h => by cases h), Holds.lit w l t⟩
/-- A row of the call's own, as a slice. -/
theorem Sl.own {base : Nat} {e : TypeId} {size : Nat} {v : Value} (h : w.ownsRow base e size v n (l.flatMap f)) (hf : ∀ x, (f x).length = size) (hsz : 0 < size) :
    ∃ (A : Option Addr) (c : Nat), v = .slice A n c ∧ Sl f w A n c l ∧ New base A := by
  have hl : n = l.length := by
    have h1 := h.1
    rw [flat_len hf] at h1
    exact (Nat.eq_of_mul_eq_mul_right hsz h1).symm
  rcases h.2 with ⟨rfl, h0⟩ | ⟨g, cap, cur, rfl, hB, hg, hc, _⟩
  · subst h0
    have : l = [] := List.eq_nil_of_length_eq_zero hl.symm
    subst this
    exact ⟨none, 0, rfl, Sl.none_ w, fun a h => by cases h⟩
  · refine ⟨some ⟨g, 0, none⟩, cap, rfl, ⟨hl, hc, (fun h => by cases h), fun _ => ⟨_, rfl, ?_, fun j u hu => h.cells (g := g) rfl j u hu⟩⟩, fun a h => by cases h; exact hB⟩
    rcases Nat.lt_or_ge g w.heap.size with hlt | hge
    · exact hlt
    · rw [Array.getElem?_eq_none hge] at hg; cases hg
end

theorem Box.of_heap {w : World} {g : Nat} {cur : Array Value} {e : TypeId} (h : w.heap[g]? = some (.cells cur e (0, 0))) : Box w g cur.toList := by
  refine ⟨?_, fun i u hu => ?_, fun i _ => ?_⟩
  · rcases Nat.lt_or_ge g w.heap.size with hlt | hge
    · exact hlt
    · rw [Array.getElem?_eq_none hge] at h; cases h
  · unfold World.cell?
    simp only [h]
    simpa using hu
  · unfold World.frozen?
    simp [h]
/-- A slice's elements lie in a block of their own, which may be written. -/
def OwnB {α : Type} (f : α → List Value) (w : World) (A : Option Addr) (l : List α) : Prop :=
  0 < l.length → ∃ g cs, A = some ⟨g, 0, none⟩ ∧ Box w g cs ∧ ∀ (j : Nat) (u : Value), (l.flatMap f)[j]? = some u → cs[j]? = some u
theorem Sl.ownB {α : Type} {f : α → List Value} {size : Nat} {w : World} {base : Nat} {e : TypeId} {A : Option Addr} {n c : Nat} {l : List α} (hf : ∀ x, (f x).length = size) (hsz : 0 < size) (h : w.ownsRow base e size (.slice A n c) n (l.flatMap f)) : OwnB f w A l := by
  intro hl
  have hn : l.length * size = n * size := by rw [← flat_len hf, h.1]
  have hn := Nat.eq_of_mul_eq_mul_right hsz hn
  rcases h.2 with ⟨_, h0⟩ | ⟨g, cap, cur, hv, _, hg, _, _, _, ht⟩
  · omega
  · cases hv
    refine ⟨g, cur.toList, rfl, Box.of_heap hg, fun j u hu => ?_⟩
    rw [← ht] at hu
    rw [List.getElem?_take] at hu
    split at hu
    · exact hu
    · cases hu

theorem own_below {w w' : World} {base : Nat} {e : TypeId} {size n : Nat} {v : Value} {xs : List Value} (h : w.ownsRow base e size v n xs) (hb : Below w.heap.size w w') : w'.ownsRow base e size v n xs :=
  h.kept (row := none) ⟨hb.os, hb.tape, hb.output, hb.size, fun i hi _ => hb.block i hi⟩ (by cases v.ownBlock <;> simp)

/-- An append of a slice, nil or not, onto a row of the call's own. -/
theorem append_row {α : Type} {f : α → List Value} {size : Nat} {P : Program} {w : World} {ops : Array Oper} {rest : List Oper} {o : Oper} {a : Act} {Q : Exit → Act → World → Prop} (hgd : o.guard = none) (s x : Operand) (t e : TypeId)
    (ho : o.op = .call { callee := .builtin .append, args := #[s, x], argTypes := #[t, t] }) (z : Value) (bytes : Nat) (ht : P.underlying t = some (.slice e))
    (hinfo : (P.info? e).map (fun i => (i.zero, i.size, i.bytes)) = some (some z, size, bytes)) (hzs : z.cells.size = size) (hsz : 0 < size) (hby : bytes ≤ 1000)
    (hf : ∀ x, (f x).length = size) (h1 : ∀ x, ∀ u ∈ f x, u.oneCell' = true) (base : Nat)
    (v : Value) (n : Nat) (l : List α) (hs : a.eval s = v) (hown : w.ownsRow base e size v n (l.flatMap f)) (B : Nat) (A : Option Addr) (m c : Nat) (news : List α) (hx : a.eval x = .slice A m c)
    (hA : A = none → m = 0 ∧ c = 0) (hm : Hid (m = news.length)) (hI : Holds f w B A news) (hn : n + m ≤ 100000000) (hbase : base ≤ w.heap.size)
    (h : ∀ v' w', w'.ownsRow base e size v' (n + m) ((l ++ news).flatMap f) → w.grownBy w' v.ownBlock → (v'.ownBlock = v.ownBlock ∨ v'.ownBlock = some w.heap.size) → wpList P ops Q rest (a.put o.dst v') w') : wpList P ops Q (o :: rest) a w := by
  obtain ⟨i, hi, hz0, hz1, hz2⟩ := info_parts hinfo
  have hm' := hm.out
  have e1 : (l ++ news).flatMap f = l.flatMap f ++ news.flatMap f := by simp
  rw [e1] at h
  cases A with
  | none =>
    obtain ⟨rfl, rfl⟩ := hA rfl
    have : news = [] := List.eq_nil_of_length_eq_zero (by omega)
    subst this
    refine wpList_append_own_none hgd s x t ho base e i size ht hi v n _ hs hown hx ?_
    exact h v w (by simpa using hown) (World.grownBy.refl w _) (.inl rfl)
  | some ad =>
    refine wpList_append_own_at w hgd s x t ho base e i z size bytes ht hi hz0 hz1 hz2 hzs hsz v n _ hs hown ad m c (news.flatMap f) hx (by rw [flat_len hf, hm']) ?_ ?_ (by unfold maxLen; omega) ?_ hbase ?_
    · intro j u hj
      have hjl : 0 < news.length := by
        rcases news with _ | ⟨y, ys⟩
        · simp at hj
        · simp
      obtain ⟨a', ha', _, hc⟩ := hI hjl
      obtain rfl := Option.some.inj ha'
      exact hc j u hj
    · intro u hu
      obtain ⟨y, _, hy⟩ := List.mem_flatMap.1 hu
      exact h1 y u hy
    · exact Nat.le_trans (Nat.mul_le_mul hn hby) (by decide)
    · intro v' w' h1 h2 _ h3
      exact h v' w' h1 h2 h3

/-- An append of a slice, nil or not, onto a row of the call's own: as a run, as one operation, as a step of a region that draws its order. -/
theorem run_append_row {α : Type} {f : α → List Value} {size : Nat} {P : Program} {w : World} (t ty e : TypeId) (z : Value) (bytes : Nat) (ht : P.underlying t = some (.slice e))
    (hinfo : (P.info? e).map (fun i => (i.zero, i.size, i.bytes)) = some (some z, size, bytes)) (hzs : z.cells.size = size) (hsz : 0 < size) (hby : bytes ≤ 1000)
    (hf : ∀ x, (f x).length = size) (h1 : ∀ x, ∀ u ∈ f x, u.oneCell' = true) (base : Nat)
    (v : Value) (n : Nat) (l : List α) (hown : w.ownsRow base e size v n (l.flatMap f)) (B : Nat) (A : Option Addr) (m c : Nat) (news : List α)
    (hA : A = none → m = 0 ∧ c = 0) (hm : Hid (m = news.length)) (hI : Holds f w B A news) (hn : n + m ≤ 100000000) (hbase : base ≤ w.heap.size) :
    ∃ v' w', (Builtin.append_ #[t, t] ty #[v, .slice A m c]).run P w = .ok v' w' ∧ w'.ownsRow base e size v' (n + m) ((l ++ news).flatMap f) ∧ w.grownBy w' v.ownBlock ∧ (v'.ownBlock = v.ownBlock ∨ v'.ownBlock = some w.heap.size) := by
  obtain ⟨i, hi, hz0, hz1, hz2⟩ := info_parts hinfo
  have hm' := hm.out
  have e1 : (l ++ news).flatMap f = l.flatMap f ++ news.flatMap f := by simp
  rw [e1]
  cases A with
  | none =>
    obtain ⟨rfl, rfl⟩ := hA rfl
    have : news = [] := List.eq_nil_of_length_eq_zero (by omega)
    subst this
    exact ⟨v, w, run_append_owned_none (P := P) (w := w) base t ty e i size ht hi v n _ hown, by simpa using hown, World.grownBy.refl w _, .inl rfl⟩
  | some ad =>
    obtain ⟨v', w', hr, h2, h3, _, h5⟩ := run_append_own_at (P := P) w base t ty e i z size bytes ht hi hz0 hz1 hz2 hzs hsz v n _ hown ad m c (news.flatMap f) (by rw [flat_len hf, hm'])
      (fun j u hj => by
        have hjl : 0 < news.length := by
          rcases news with _ | ⟨y, ys⟩
          · simp at hj
          · simp
        obtain ⟨a', ha', _, hc⟩ := hI hjl
        obtain rfl := Option.some.inj ha'
        exact hc j u hj)
      (fun u hu => by
        obtain ⟨y, _, hy⟩ := List.mem_flatMap.1 hu
        exact h1 y u hy) (by unfold maxLen; omega) (Nat.le_trans (Nat.mul_le_mul hn hby) (by decide)) hbase
    exact ⟨v', w', hr, h2, h3, h5⟩

theorem step_append_row {α : Type} {f : α → List Value} {size : Nat} {P : Program} {w : World} {ops : Array Oper} {o : Oper} {a : Act} {K : Act → World → Prop} {Q : Exit → Act → World → Prop} {E : Prop} (hgd : o.guard = none) (s x : Operand) (t e : TypeId)
    (ho : o.op = .call { callee := .builtin .append, args := #[s, x], argTypes := #[t, t] }) (z : Value) (bytes : Nat) (ht : P.underlying t = some (.slice e))
    (hinfo : (P.info? e).map (fun i => (i.zero, i.size, i.bytes)) = some (some z, size, bytes)) (hzs : z.cells.size = size) (hsz : 0 < size) (hby : bytes ≤ 1000)
    (hf : ∀ x, (f x).length = size) (h1 : ∀ x, ∀ u ∈ f x, u.oneCell' = true) (base : Nat)
    (v : Value) (n : Nat) (l : List α) (hs : a.eval s = v) (hown : w.ownsRow base e size v n (l.flatMap f)) (B : Nat) (A : Option Addr) (m c : Nat) (news : List α) (hx : a.eval x = .slice A m c)
    (hA : A = none → m = 0 ∧ c = 0) (hm : Hid (m = news.length)) (hI : Holds f w B A news) (hn : n + m ≤ 100000000) (hbase : base ≤ w.heap.size)
    (h : ∀ v' w', w'.ownsRow base e size v' (n + m) ((l ++ news).flatMap f) → w.grownBy w' v.ownBlock → (v'.ownBlock = v.ownBlock ∨ v'.ownBlock = some w.heap.size) → K (a.put o.dst v') w') :
    if Region.wanted o (yielded ops a.tmps) = true then Oper.wp P o a w K Q else E := by
  have hw : Region.wanted o (yielded ops a.tmps) = true := by simp [Region.wanted, hgd]
  rw [if_pos hw]
  obtain ⟨v', w', hrun, h2, h3, h4⟩ := run_append_row (P := P) t o.type e z bytes ht hinfo hzs hsz hby hf h1 base v n l hown B A m c news hA hm hI hn hbase
  unfold Oper.wp execOp
  simp only [ho, resolve, invoke, builtin, Sem.run_bind, Sem.run_pure, Result.andThen_ok, List.map_toArray, List.map_cons, List.map_nil, hs, hx, hrun]
  exact h v' w' h2 h3 h4

/-- A block that was made: so many elements, all of them z. -/
def madeObj (z : Value) (k : Nat) (e : TypeId) : Obj := .cells (madeCells z.cells k) e
/-- A slice made, with room. -/
theorem make_row {P : Program} (t e : TypeId) (z : Value) (size bytes : Nat) (ht : P.underlying t = some (.slice e))
    (hinfo : (P.info? e).map (fun i => (i.zero, i.size, i.bytes)) = some (some z, size, bytes)) (hby : bytes ≤ 1000) (n c : Nat) (N C : Int) (hN : N = (n : Int)) (hC : C = (c : Int)) (hn : n ≤ c) (hc : c ≤ 100000000) (w : World) :
    (Instr.makeSlice t (.int .i64 N) (.int .i64 C)).run P w = .ok (.slice (some ⟨w.heap.size, 0, none⟩) n c) (w.alloc (madeObj z (c * size) e)) := by
  subst hN hC
  obtain ⟨i, hi, hz0, hz1, hz2⟩ := info_parts hinfo
  have hb : (i.bytes : Int) * (c : Int) ≤ 281474976710656 := by
    have h : i.bytes * c ≤ 1000 * 100000000 := by rw [hz2]; exact Nat.mul_le_mul hby hc
    have h2 : ((i.bytes * c : Nat) : Int) ≤ 281474976710656 := by omega
    rwa [Int.natCast_mul] at h2
  have h := run_make (P := P) w t e i z ht hi hz0 .i64 .i64 n c (by omega) (by omega) hb (by omega)
  rw [hz1] at h
  simpa [madeObj] using h
theorem made_own {w : World} (base : Nat) (e : TypeId) (z : Value) (size c : Nat) (hb : base ≤ w.heap.size) (hc : c ≤ 100000000) :
    (w.alloc (madeObj z (c * size) e)).ownsRow base e size (.slice (some ⟨w.heap.size, 0, none⟩) 0 c) 0 [] :=
  World.ownsRow_made w _ c hb (by unfold maxLen; omega) (by simp [size_madeCells])

/-- The answer: a new slice of the elements l. -/
def MadeSl {α : Type} (f : α → List Value) (w : World) (l : List α) (e : Ending) (w' : World) : Prop :=
  ∃ (E : Option Addr) (c : Nat), e = .returned (.slice E l.length c) ∧ Sl f w' E l.length c l ∧ Below w.heap.size w w' ∧ New w.heap.size E

/-- A number as an element. -/
def intE (z : Int) : List Value := [.int .i64 z]
theorem intE_len (z : Int) : (intE z).length = 1 := rfl
theorem intE_one (z : Int) : ∀ u ∈ intE z, u.oneCell' = true := by intro u hu; simp [intE] at hu; subst hu; rfl
theorem intE_flat (l : List Int) : l.flatMap intE = l.map (Value.int .i64) := by induction l with
  | nil => rfl
  | cons x l ih => simp [intE, ih]
theorem Holds.ints {w : World} {B : Nat} {A : Option Addr} {l : List Int} (h : Holds intE w B A l) (hz : ∀ z ∈ l, I64 z) : Ints w B A l := by
  refine ⟨hz, fun hl => ?_⟩
  obtain ⟨a, e, hb, hc⟩ := h hl
  refine ⟨a, e, hb, fun i hi => hc i _ ?_⟩
  rw [intE_flat]
  simp [List.getD, List.getElem?_eq_getElem hi]

theorem Holds.int {w : World} {B : Nat} {A : Option Addr} {l : List Int} (h : Holds intE w B A l) {i : Nat} {x : Int} (hx : l[i]? = some x) : ∃ a, A = some a ∧ a.block < B ∧ w.cell? (a.add i) = some (.int .i64 x) := by
  obtain ⟨a, e, hb, hc⟩ := h.get intE_len hx
  exact ⟨a, e, hb, by simpa using hc 0 _ rfl⟩

/-- Four numbers: a rectangle, or sides. -/
structure Four where
  a : Int
  b : Int
  c : Int
  d : Int
def fourE (r : Four) : List Value := [.int .i64 r.a, .int .i64 r.b, .int .i64 r.c, .int .i64 r.d]
theorem fourE_len (r : Four) : (fourE r).length = 4 := rfl
theorem fourE_one (r : Four) : ∀ u ∈ fourE r, u.oneCell' = true := by intro u hu; simp [fourE] at hu; rcases hu with rfl | rfl | rfl | rfl <;> rfl

theorem add_off (a : Addr) (i r : Nat) (hr : 0 < r) : (⟨(a.add i).block, (a.add i).off + r, none⟩ : Addr) = a.add (i + r) := by
  unfold Addr.add
  by_cases h : i = 0
  · subst h; simp; omega
  · simp [h, Nat.add_assoc]

/-- Where the four numbers of an element lie, as the walk writes it. -/
theorem Holds.four {w : World} {B : Nat} {A : Option Addr} {l : List Four} (h : Holds fourE w B A l) {i : Nat} {x : Four} (hx : l[i]? = some x) :
    ∃ a, A = some a ∧ a.block < B ∧ w.cell? (a.add (i * 4)) = some (.int .i64 x.a) ∧ w.cell? ⟨(a.add (i * 4)).block, (a.add (i * 4)).off + 1, none⟩ = some (.int .i64 x.b) ∧
      w.cell? ⟨(a.add (i * 4)).block, (a.add (i * 4)).off + 2, none⟩ = some (.int .i64 x.c) ∧ w.cell? ⟨(a.add (i * 4)).block, (a.add (i * 4)).off + 3, none⟩ = some (.int .i64 x.d) := by
  obtain ⟨a, rfl, hb, hc⟩ := h.get fourE_len hx
  refine ⟨a, rfl, hb, hc 0 _ rfl, ?_, ?_, ?_⟩
  · rw [add_off _ _ _ (by omega)]; exact hc 1 _ rfl
  · rw [add_off _ _ _ (by omega)]; exact hc 2 _ rfl
  · rw [add_off _ _ _ (by omega)]; exact hc 3 _ rfl
end Go.Proofs.Ytnmfcbmdopmglaa
