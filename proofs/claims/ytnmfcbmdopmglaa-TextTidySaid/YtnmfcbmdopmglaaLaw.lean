/-
  What every statement's proof ends in: a law that answered true, in a world in which nothing turned below the blocks that were there, keeps its row's word. And how an argument that is a slice of numbers is read.
-/
import Derived.Test.YtnmfcbmdopmglaaAuOf
import Derived.Test.YtnmfcbmdopmglaaLawCore
import Derived.Carry
import Derived.ProofKit
import Derived.OpenShut
import Derived.Laws.AppendOwnNone
import Derived.SizedLaws
namespace Go.Proofs.Ytnmfcbmdopmglaa
open Go.ChangeShapes Go.WideShapes Go.ChangeAt Go.RowKit

set_option maxRecDepth 100000 in
/-- A slice of numbers among the arguments: its numbers, and where they lie. -/
theorem view_ints {H : Type} {enc : TypeId × Value → H} {W : World} {v : Value} {d : DataW H} {p : List MemPlace} {base : Nat}
    (hok : Value.okWide Try.prog W .any base 23 v) (h : DataW.Trod enc Try.prog W 0 (fun _ => true) true 23 v d p) :
    ∃ (A : Option Addr) (n c : Nat) (zs : List Int), v = .slice A n c ∧ n = zs.length ∧ n ≤ c ∧ c ≤ maxLen ∧ (A = none → n = 0 ∧ c = 0) ∧ Ints W W.heap.size A zs ∧ (n = 0 ∨ ∃ r, d = .slice (lits .i64 zs) r) := by
  obtain ⟨A, n, c, rfl⟩ := okWide_slice Try.underlying23 hok
  obtain ⟨fuel, hf⟩ := h
  rcases open_ints Try.underlying23 Try.underlying2 (by kernel_rfl) hf with ⟨hcs, _⟩ | ⟨a, n', c', zs, hcs, _, hlc, hm, hz, hx, hcell, hwf⟩
  · simp [Value.cells] at hcs
    obtain ⟨rfl, rfl, rfl⟩ := hcs
    exact ⟨none, 0, 0, [], rfl, rfl, Nat.le_refl _, Nat.zero_le _, fun _ => ⟨rfl, rfl⟩, ⟨(fun z hz => by cases hz), fun h => by simp at h⟩, Or.inl rfl⟩
  · simp [Value.cells] at hcs
    obtain ⟨rfl, rfl, rfl⟩ := hcs
    simp only [if_true] at hz
    refine ⟨some a, n, c, zs.take n, rfl, by simp; omega, hlc, hm, (fun h => by cases h), ⟨fun z hzt => bounds_i64 (hwf z (List.mem_of_mem_take hzt)), fun _ => ⟨a, rfl, ?_, fun i hi => ?_⟩⟩, Or.inr ⟨lits .i64 (zs.drop n), by simp only [Prod.mk.injEq] at hx; exact hx.1⟩⟩
    · rename_i hlen
      have h0 := hcell 0 (by simp at hlen; omega)
      have := World.block_lt_of_cell? W _ h0
      rwa [add_block] at this
    · simp at hi
      have hin : i < n := by omega
      rw [hcell i (by omega)]
      simp [List.getD, hin]

theorem ints_room {H : Type} {ts : List TypeId} {ds : List (DataW H)} {j n : Nat} {d : DataW H} {zs : List Int} (h : (DataW.weightsEach Try.prog ts ds).all (· ≤ reachBytes) = true)
    (ht : ts[j]? = some 23) (hd : ds[j]? = some d) (hn : n = zs.length) (hD : n = 0 ∨ ∃ r, d = .slice (lits .i64 zs) r) : n ≤ 17592186044416 := by
  rcases hD with h0 | ⟨r, rfl⟩
  · omega
  · have := sized_slice h ht hd Try.underlying23
    rw [show Try.prog.bytesOf 2 = 8 by kernel_rfl] at this
    simp only [lits, List.length_map, reachBytes] at this
    omega

theorem info64 : (Try.prog.info? 2).map (fun i => (i.zero, i.size, i.bytes)) = some (some (.int .i64 0), 1, 8) := by kernel_rfl

/-- An append of a slice of numbers, nil or not, onto a row of the call's own. -/
theorem append_ints {w : World} {ops : Array Oper} {rest : List Oper} {o : Oper} {a : Act} {Q : Exit → Act → World → Prop} (hgd : o.guard = none) (s x : Operand)
    (ho : o.op = .call { callee := .builtin .append, args := #[s, x], argTypes := #[23, 23] }) (base : Nat)
    (v : Value) (n : Nat) (zs : List Int) (hs : a.eval s = v) (hown : w.ownsRow base 2 1 v n (zs.map (Value.int .i64))) (B : Nat) (A : Option Addr) (m c : Nat) (news : List Int) (hx : a.eval x = .slice A m c)
    (hA : A = none → m = 0 ∧ c = 0) (hm : Hid (m = news.length)) (hI : Ints w B A news) (hn : n + m ≤ 1000000) (hbase : base ≤ w.heap.size)
    (h : ∀ v' w', w'.ownsRow base 2 1 v' (n + m) ((zs ++ news).map (Value.int .i64)) → w.grownBy w' v.ownBlock → wpList Try.prog ops Q rest (a.put o.dst v') w') : wpList Try.prog ops Q (o :: rest) a w := by
  obtain ⟨i, hi, hz0, hz1, hz2⟩ := info_parts info64
  have hm' := hm.out
  cases A with
  | none =>
    obtain ⟨rfl, rfl⟩ := hA rfl
    have : news = [] := List.eq_nil_of_length_eq_zero (by omega)
    subst this
    refine wpList_append_own_none hgd s x 23 ho base 2 i 1 Try.underlying23 hi v n (zs.map (Value.int .i64)) hs hown hx ?_
    exact h v w (by simpa using hown) (World.grownBy.refl w _)
  | some ad =>
    refine wpList_append_own w hgd s x 23 ho base 2 i (.int .i64 0) 1 8 Try.underlying23 hi hz0 hz1 hz2 rfl (by decide) v n (zs.map (Value.int .i64)) hs hown ad m c (news.map (Value.int .i64)) hx (by simp; omega) ?_ (ints_oneCell _ _) (by unfold maxLen; omega) (by omega) hbase ?_
    · intro j u hj
      have hjl : j < news.length := by
        rcases Nat.lt_or_ge j news.length with hlt | hge
        · exact hlt
        · rw [List.getElem?_eq_none (by simpa using hge)] at hj; cases hj
      obtain ⟨a', ha', _, hc⟩ := hI.2 (by omega)
      obtain rfl := Option.some.inj ha'
      rw [hc j hjl]
      simpa [List.getD, List.getElem?_eq_getElem hjl] using hj
    · intro v' w' h1 h2 _
      exact h v' w' (by simpa using h1) h2

/-- A row of the call's own, as a slice of numbers. -/
theorem ints_own {w : World} {base : Nat} {v : Value} {n : Nat} {zs : List Int} (h : w.ownsRow base 2 1 v n (zs.map (Value.int .i64))) (hz : ∀ z ∈ zs, I64 z) :
    ∃ (A : Option Addr) (c : Nat), v = .slice A n c ∧ n = zs.length ∧ Ints w w.heap.size A zs := by
  have hl : n = zs.length := by have := h.1; simpa using this.symm
  rcases h.2 with ⟨rfl, h0⟩ | ⟨g, cap, cur, rfl, _, hg, _⟩
  · exact ⟨none, 0, by rw [h0], hl, hz, fun hp => by omega⟩
  · refine ⟨some ⟨g, 0, none⟩, cap, rfl, hl, hz, fun _ => ⟨_, rfl, ?_, fun i hi => ?_⟩⟩
    · rcases Nat.lt_or_ge g w.heap.size with hlt | hge
      · exact hlt
      · rw [Array.getElem?_eq_none hge] at hg; cases hg
    · refine h.cells (g := g) rfl i _ ?_
      simp [List.getElem?_map, List.getElem?_eq_getElem hi, List.getD]
end Go.Proofs.Ytnmfcbmdopmglaa
