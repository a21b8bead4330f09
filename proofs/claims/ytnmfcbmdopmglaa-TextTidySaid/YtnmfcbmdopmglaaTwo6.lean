/-
  Two rows of the call's own that grow beside each other; what the statement on scaled advances reckons with.
-/
import Derived.Test.YtnmfcbmdopmglaaScale6
import Derived.Test.YtnmfcbmdopmglaaRWide
import Derived.Test.YtnmfcbmdopmglaaView8
namespace Go.Proofs.Ytnmfcbmdopmglaa
open Go.RowKit
set_option linter.unusedVariables false

structure Two (w0 : World) (v : Value) (l : List Int) (v' : Value) (l' : List Int) (wr : World) : Prop where
  r1 : wr.ownsRow w0.heap.size 2 1 v l.length (l.flatMap intE)
  r2 : wr.ownsRow w0.heap.size 2 1 v' l'.length (l'.flatMap intE)
  ap : ∀ g, v.ownBlock = some g → v'.ownBlock ≠ some g
  hb : Below w0.heap.size w0 wr
section
variable {w0 wr w' : World} {v v' x : Value} {l l' : List Int} {z : Int}
theorem Two.start (w : World) : Two w (.slice none 0 0) [] (.slice none 0 0) [] w := ⟨World.ownsRow_nil _ _ _ _, World.ownsRow_nil _ _ _ _, fun g h => by simp [Value.ownBlock] at h, Below.refl _ _⟩
theorem Two.swap (h : Two w0 v l v' l' wr) : Two w0 v' l' v l wr := ⟨h.r2, h.r1, fun g h1 h2 => h.ap g h2 h1, h.hb⟩
theorem Two.alloc (h : Two w0 v l v' l' wr) (o : Obj) : Two w0 v l v' l' (wr.alloc o) :=
  have hb := (Below.refl wr.heap.size wr).alloc (Nat.le_refl _) o
  ⟨own_below h.r1 hb, own_below h.r2 hb, h.ap, h.hb.trans (hb.mono h.hb.size)⟩
theorem Two.step (h : Two w0 v l v' l' wr) (h1 : w'.ownsRow w0.heap.size 2 1 x (l.length + 1) ((l ++ [z]).flatMap intE)) (h2 : wr.grownBy w' v.ownBlock) (h3 : x.ownBlock = v.ownBlock ∨ x.ownBlock = some wr.heap.size) : Two w0 x (l ++ [z]) v' l' w' := by
  refine ⟨by simpa using h1, h.r2.kept h2 ?_, fun g hg hg2 => ?_, h.hb.grown h2 h.hb.size (fun j hj => (h.r1.lt j hj).1)⟩
  · cases hv : v'.ownBlock with
    | none => exact .inl rfl
    | some g => exact .inr (fun e => h.ap g e.symm hv)
  · rcases h3 with e | e
    · exact h.ap g (e ▸ hg) hg2
    · rw [e] at hg
      cases hg
      have := (h.r2.lt _ hg2).2
      omega
theorem Two.base (h : Two w0 v l v' l' wr) (o : Obj) : w0.heap.size ≤ (wr.alloc o).heap.size := by have := h.hb.size; simp; omega
end

/-- A number as the statement takes it in. -/
def cutM (a : Int) : Int := a.tmod 1048576
theorem cutM_bd (a : Int) : -1048575 ≤ cutM a ∧ cutM a ≤ 1048575 := by
  unfold cutM
  have h1 := Int.tmod_lt_of_pos a (show (0 : Int) < 1048576 by omega)
  have h2 := Int.lt_tmod_of_pos a (show (0 : Int) < 1048576 by omega)
  omega
theorem near_one (l : List Int) : Near20 (l.map cutM) := fun z hz => by
  obtain ⟨a, _, rfl⟩ := List.mem_map.1 hz
  have := cutM_bd a
  omega
theorem near_many {k : Int} (h1 : 1 ≤ k) (h2 : k ≤ 7) (l : List Int) : Near20 (mulA k (l.map cutM)) := fun z hz => by
  obtain ⟨y, hy, rfl⟩ := List.mem_map.1 hz
  obtain ⟨a, _, rfl⟩ := List.mem_map.1 hy
  have := cutM_bd a
  obtain rfl | rfl | rfl | rfl | rfl | rfl | rfl : k = 1 ∨ k = 2 ∨ k = 3 ∨ k = 4 ∨ k = 5 ∨ k = 6 ∨ k = 7 := by omega
  all_goals (try dsimp only)
  all_goals omega
theorem near_i64 {l : List Int} (h : Near20 l) : ∀ z ∈ l, I64 z := fun z hz => by have := h z hz; unfold I64; omega
theorem mul_bd {k x : Int} (h1 : 1 ≤ k) (h2 : k ≤ 7) (hx : -1000000000000000 ≤ x ∧ x ≤ 1000000000000000) : -7000000000000000 ≤ k * x ∧ k * x ≤ 7000000000000000 := by
  obtain rfl | rfl | rfl | rfl | rfl | rfl | rfl : k = 1 ∨ k = 2 ∨ k = 3 ∨ k = 4 ∨ k = 5 ∨ k = 6 ∨ k = 7 := by omega
  all_goals omega
theorem mul_wrap {k x : Int} (h1 : 1 ≤ k) (h2 : k ≤ 7) (hx : -1000000000000000 ≤ x ∧ x ≤ 1000000000000000) : wrap64 (k * x) = k * x ∧ IntKind.i64.wrap (k * x) = k * x ∧ wrap64 (x * k) = k * x ∧ IntKind.i64.wrap (x * k) = k * x := by
  have h := mul_bd h1 h2 hx
  have e := IntWalk.i64_in (k * x) (by omega)
  have e2 : wrap64 (k * x) = k * x := by unfold wrap64; omega
  exact ⟨e2, e, by rw [Int.mul_comm]; exact e2, by rw [Int.mul_comm]; exact e⟩
theorem take_one {l : List Int} {j : Nat} {a : Int} (k : Int) (h : l[j]? = some a) : (l.take (j + 1)).map cutM = (l.take j).map cutM ++ [cutM a] ∧ mulA k ((l.take (j + 1)).map cutM) = mulA k ((l.take j).map cutM) ++ [k * cutM a] := by
  obtain ⟨hl, rfl⟩ := List.getElem?_eq_some_iff.1 h
  rw [List.take_succ_eq_append_getElem hl, List.map_append]
  refine ⟨rfl, ?_⟩
  unfold mulA
  rw [List.map_append]
  rfl
theorem i32_cell {w : World} {B : Option Addr} {m d : Nat} {u : List Int} (h : Sl i32E w B m d u) {k : Nat} (hk : k < m) : ∃ b x, B = some b ∧ b.block < w.heap.size ∧ u[k]? = some x ∧ w.cell? (b.add k) = some (.int .i32 x) := by
  have hl : k < u.length := by rw [← h.len]; exact hk
  obtain ⟨b, e, hb, hc⟩ := h.at_.get i32E_len (List.getElem?_eq_getElem hl)
  refine ⟨b, _, e, hb, List.getElem?_eq_getElem hl, ?_⟩
  have := hc 0 _ rfl
  simpa using this

theorem tot_mem : ∀ {l : List Wrd} {x : Wrd}, x ∈ l → x.w.natAbs + x.g.natAbs ≤ tot l
  | y :: l, x, h => by
    have e : tot (y :: l) = y.w.natAbs + y.g.natAbs + tot l := by simp [tot]
    rw [e]
    rcases List.mem_cons.1 h with rfl | h
    · omega
    · have := tot_mem h; omega
theorem lst_mem (l : List Wrd) : lst l = 0 ∨ ∃ x ∈ l, lst l = x.w := by
  have key : ∀ (l : List Wrd) (m : Int), l.foldl (fun m y => if m < y.w then y.w else m) m = m ∨ ∃ x ∈ l, l.foldl (fun m y => if m < y.w then y.w else m) m = x.w := by
    intro l
    induction l with
    | nil => intro m; exact .inl rfl
    | cons y l ih =>
      intro m
      simp only [List.foldl_cons]
      rcases ih (if m < y.w then y.w else m) with h | ⟨x, hx, h⟩
      · by_cases hm : m < y.w
        · rw [if_pos hm] at h ⊢
          exact .inr ⟨y, List.mem_cons_self .., h⟩
        · rw [if_neg hm] at h ⊢
          exact .inl h
      · exact .inr ⟨x, List.mem_cons_of_mem _ hx, h⟩
  cases l with
  | nil => exact .inl rfl
  | cons x l =>
    rcases key l x.w with h | ⟨y, hy, h⟩
    · exact .inr ⟨x, List.mem_cons_self .., h⟩
    · exact .inr ⟨y, List.mem_cons_of_mem _ hy, h⟩
theorem lst_bd {l : List Wrd} (h : tot l ≤ 48000000000) : -48000000000 ≤ lst l ∧ lst l ≤ 48000000000 := by
  rcases lst_mem l with e | ⟨x, hx, e⟩
  · omega
  · have := tot_mem hx; omega
theorem grt_bd (l : List Wrd) (rs : List Rg) : 0 ≤ grt l rs ∧ grt l rs ≤ 1099511627776 := by
  have hc : ∀ x, cutI x ≤ 1099511627776 := fun x => by unfold cutI; split <;> (try split) <;> omega
  have key : ∀ (rs : List Rg) (m : Int), 0 ≤ m → m ≤ 1099511627776 → 0 ≤ rs.foldl (fun m r => max m (cutI (rowS (subs l r)))) m ∧ rs.foldl (fun m r => max m (cutI (rowS (subs l r)))) m ≤ 1099511627776 := by
    intro rs
    induction rs with
    | nil => intro m h1 h2; exact ⟨h1, h2⟩
    | cons r rs ih =>
      intro m h1 h2
      simp only [List.foldl_cons]
      have := hc (rowS (subs l r))
      exact ih _ (by omega) (by omega)
  exact key rs 0 (by omega) (by omega)
theorem wrds_ok {A u : List Int} (hu : u.length ≤ 3000) {ps : List Plc} (hp : Whl u ps) : ∀ x ∈ wrds A u ps, WrdOk x := by
  intro x hx
  obtain ⟨i, hi⟩ := List.getElem?_of_mem hx
  obtain ⟨z, n, hc, hg⟩ := hp
  have hl : i < ps.length := by have := (List.getElem?_eq_some_iff.1 hi).1; rwa [wrds_len] at this
  have hq := List.getElem?_eq_getElem hl
  have h2 := wrds_get' (A := A) (u := u) hq
  rw [h2] at hi
  cases hi
  obtain ⟨y, _, h4⟩ := chn_at ps 0 z i _ hc hq
  have h5 := h4.le
  have h6 := h4.2.1
  have h9 := h4.1.2.2.2
  have h7 : endsN (cut u y ps[i].s) ≤ (cut u y ps[i].s).length := List.length_filter_le _ _
  have h8 : (cut u y ps[i].s).length ≤ ps[i].s := by simp [cut]; omega
  refine ⟨by show I64 (_ : Int); unfold I64; show _ ≤ (ps[i].s : Int) ∧ (ps[i].s : Int) ≤ _; omega, by show _ ≤ (ps[i].t : Int) ∧ (ps[i].t : Int) ≤ _; omega, cut_i64 _, ?_, by show _ ≤ (ps[i].e : Int) ∧ (ps[i].e : Int) ≤ _; omega⟩
  show I64 (gapOf _ _ _)
  unfold gapOf
  split
  · exact cut_i64 _
  · unfold I64; omega
end Go.Proofs.Ytnmfcbmdopmglaa
