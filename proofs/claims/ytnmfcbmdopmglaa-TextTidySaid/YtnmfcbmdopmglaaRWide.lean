/-
  A row of the call's own that grows; contracts of the document's Advance and Wide.
-/
import Derived.Test.YtnmfcbmdopmglaaWide
import Derived.Test.YtnmfcbmdopmglaaSumRef
namespace Go.Proofs.Ytnmfcbmdopmglaa
open Go.RowKit
set_option linter.unusedVariables false

/-- A row of the call's own that grows. -/
structure GRow {α : Type} (f : α → List Value) (e : TypeId) (size : Nat) (w0 : World) (v : Value) (l : List α) (wr : World) : Prop where
  row : wr.ownsRow w0.heap.size e size v l.length (l.flatMap f)
  hb : Below w0.heap.size w0 wr
section
variable {α : Type} {f : α → List Value} {e : TypeId} {size : Nat} {w0 wr w' : World} {v v' : Value} {l : List α}
theorem GRow.start (w : World) : GRow f e size w (.slice none 0 0) [] w := ⟨World.ownsRow_nil _ _ _ _, Below.refl _ _⟩
theorem GRow.below (h : GRow f e size w0 v l wr) (hb : Below wr.heap.size wr w') : GRow f e size w0 v l w' := ⟨own_below h.row hb, h.hb.trans (hb.mono h.hb.size)⟩
theorem GRow.alloc (h : GRow f e size w0 v l wr) (o : Obj) : GRow f e size w0 v l (wr.alloc o) := h.below ((Below.refl _ _).alloc (Nat.le_refl _) o)
theorem GRow.drew (h : GRow f e size w0 v l wr) : GRow f e size w0 v l wr.drew := ⟨h.row, h.hb.drew⟩
theorem GRow.step {news : List α} {n : Nat} (h : GRow f e size w0 v l wr) (h1 : w'.ownsRow w0.heap.size e size v' (l.length + n) ((l ++ news).flatMap f)) (hn : n = news.length) (h2 : wr.grownBy w' v.ownBlock) : GRow f e size w0 v' (l ++ news) w' :=
  ⟨by rw [List.length_append, ← hn]; exact h1, h.hb.grown h2 h.hb.size (fun j hj => (h.row.lt j hj).1)⟩
theorem GRow.fin (h : GRow f e size w0 v l wr) (hf : ∀ x, (f x).length = size) (hs : 0 < size) : ∃ (E : Option Addr) (c : Nat), v = .slice E l.length c ∧ Sl f wr E l.length c l ∧ New w0.heap.size E := Sl.own h.row hf hs
theorem GRow.base (h : GRow f e size w0 v l wr) (o : Obj) : w0.heap.size ≤ (wr.alloc o).heap.size := by have := h.hb.size; simp; omega
end

set_option maxRecDepth 100000 in
theorem radv_h (c : Int) (B : Option Addr) (m d : Nat) (A : List Int) (w : World) (hc : U16 c) (hA : Hid (Sl intE w B m d A)) :
    Calls Try.prog 43 #[.int .u16 c, .slice B m d] w fun e w' => e = .returned (.int .i64 (adv A c)) ∧ w = w' := by
  obtain ⟨c0, c1⟩ := hc
  obtain ⟨k, rfl⟩ := Int.eq_ofNat_of_zero_le c0
  by_cases hlt : k < m
  · obtain ⟨b, rfl, hcell⟩ := adv_cell hA.out hlt
    have hlt' : (k : Int) < (m : Int) := by omega
    go_enter Try.func43, Try.ntmps43
    go_wp2_with fail
    go_ret
    exact ⟨rfl, rfl⟩
  · have hn := adv_none (A := A) (k := k) (by have := hA.out.len; omega)
    rw [hn]
    clear hn
    have hlt' : ¬ (k : Int) < (m : Int) := by omega
    go_enter Try.func43, Try.ntmps43
    go_wp2_with fail
    go_ret
    exact ⟨rfl, rfl⟩

theorem advs_take {A u : List Int} {k : Nat} (h : k < u.length) : advs A (u.take (k + 1)) = advs A (u.take k) ++ [adv A (u.getD k 0)] := by
  unfold advs
  rw [List.take_succ_eq_append_getElem h, List.map_append, List.getD_eq_getElem?_getD, List.getElem?_eq_getElem h]
  rfl

set_option maxRecDepth 100000 in
set_option maxHeartbeats 1600000 in
theorem rwide_h (U : Option Addr) (n c : Nat) (u : List Int) (B : Option Addr) (m d : Nat) (A : List Int) (w : World) (hU : Hid (Sl u16E w U n c u)) (hu : Hid (∀ x ∈ u, U16 x)) (hA : Hid (Sl intE w B m d A)) (ha : Hid (∀ z ∈ A, I64 z)) (hn : n ≤ 20000) :
    Calls Try.prog 23 #[.slice U n c, .slice B m d] w fun e w' => e = .returned (.tuple #[.int .i64 (cutI (wideS A u)), .bool (farI (wideS A u))]) ∧ Below w.heap.size w w' := by
  have hst : Hid (GRow intE 2 1 w (.slice none 0 0) (advs A (u.take 0)) w) := Lib.hid (GRow.start w)
  go_enter Try.func23, Try.ntmps23
  go_wp2_with fail
  go_loopw [6, 7] (fun v i wr => ∃ k : Nat, k ≤ n ∧ i = .int .i64 k ∧ Hid (GRow intE 2 1 w v (advs A (u.take k)) wr)) (fun _ i _ => n - (intOf i).toNat)
  case atStart => exact ⟨0, Nat.zero_le _, rfl, hst⟩
  case round =>
    clear hst
    obtain ⟨k, hk, rfl, hR⟩ := hrel
    by_cases hlt : k < n
    case neg =>
      have e : u.take k = u := List.take_of_length_le (by rw [← hU.out.len]; omega)
      rw [e] at hR
      obtain ⟨E, c', rfl, hS, hN⟩ := hR.out.fin intE_len (by omega)
      have hlen : (advs A u).length = n := by rw [hU.out.len]; simp [advs]
      have cs := refsum_any E c' (advs A u).length (advs A u) wr (hS.at_.ints (advs_i64 ha.out u)) (Lib.hid rfl) (by rw [hlen]; exact hn)
      have hbw := Lib.hid hR.out.hb
      have hlt' : ¬ (k : Int) < (n : Int) := by omega
      replace cs := Lib.hid cs
      clear hS hN hR hlen e
      go_wp2_with fail
      refine cs.out.mono ?_; rintro e w2 ⟨rfl, hb2⟩
      replace hb2 := Lib.hid (hbw.out.trans (hb2.mono hbw.out.size))
      go_wp2_with fail
      go_ret2
      exact ⟨rfl, hb2.out⟩
    have i1 : (0 : Int) ≤ (k : Int) := by omega
    have i2 : (k : Int) < (n : Int) := by omega
    obtain ⟨b, rfl, hbb, hcu0⟩ := u16_cell hU.out hlt
    have hcu := (hR.out.hb.cell (p := b.add k) (by rw [add_block]; exact hbb)).trans hcu0
    have hA2 := hA.out.below hR.out.hb
    have hxu := u16_get hu.out k
    have hnx := Lib.hid (advs_take (A := A) (u := u) (k := k) (by rw [← hU.out.len]; exact hlt))
    have hln : Hid ((advs A (u.take k)).length ≤ k) := Lib.hid (by simp [advs]; omega)
    generalize u.getD k 0 = x at *
    generalize advs A (u.take k) = out at *
    have ca := Lib.hid (radv_h x B m d A wr hxu (Lib.hid hA2))
    have hlit := Lib.hid (Holds.lit (f := intE) wr [adv A x] 2)
    have hA3 := hR.out.alloc (.cells ([adv A x].flatMap intE).toArray 2)
    have hown := Lib.hid hA3.row
    have hbase := Lib.hid (hR.out.base (.cells ([adv A x].flatMap intE).toArray 2))
    replace hA3 := Lib.hid hA3
    clear hcu0 hA2 hxu
    go_wp2_with (first | (go_at_call 43; refine ca.out.mono ?_; rintro e w1 ⟨rfl, rfl⟩) | (at_builtin; refine append_row rfl (.tmp 14) (.tmp 21) 23 2 rfl _ 8 Try.underlying23 infoI6 rfl (by decide) (by decide) intE_len intE_one w.heap.size u6 out.length out rfl hown.out _ _ 1 1 [_] rfl (fun h => by cases h) (Lib.hid rfl) hlit.out (by have := hln.out; omega) hbase.out ?_; intro v' w' h3 h4 h5; have hR2 := Lib.hid (hA3.out.step h3 rfl h4); clear h3 h4 h5; rw [← hnx.out] at hR2))
    go_roundw
    case rel => exact ⟨k + 1, by omega, by go_num, hR2⟩
    case measure => simp [intOf]; omega
end Go.Proofs.Ytnmfcbmdopmglaa
