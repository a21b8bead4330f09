/-
  Contracts of package text: advance and Wide.
-/
import Derived.Test.YtnmfcbmdopmglaaWrd
import Derived.Test.YtnmfcbmdopmglaaChunk
import Derived.Test.YtnmfcbmdopmglaaSum
import Derived.Test.YtnmfcbmdopmglaaView5
import Derived.Deep.DeepCutAuto
namespace Go.Proofs.Ytnmfcbmdopmglaa
open Go.RowKit
set_option linter.unusedVariables false

/-- A unit's advance is read. -/
theorem adv_cell {w : World} {B : Option Addr} {m d : Nat} {A : List Int} (h : Sl intE w B m d A) {k : Nat} (hk : k < m) : ∃ b, B = some b ∧ w.cell? (b.add k) = some (.int .i64 (adv A (k : Int))) := by
  have hl : k < A.length := by rw [← h.len]; exact hk
  obtain ⟨b, e, _, hc⟩ := h.at_.int (List.getElem?_eq_getElem hl)
  refine ⟨b, e, ?_⟩
  rw [hc]
  simp [adv, List.getD_eq_getElem?_getD, List.getElem?_eq_getElem hl]
theorem adv_none {A : List Int} {k : Nat} (h : A.length ≤ k) : adv A (k : Int) = 0 := by
  simp [adv, List.getD_eq_getElem?_getD, List.getElem?_eq_none h]

set_option maxRecDepth 100000 in
theorem adv_h (c : Int) (B : Option Addr) (m d : Nat) (A : List Int) (w : World) (hc : U16 c) (hA : Hid (Sl intE w B m d A)) :
    Calls Try.prog 38 #[.int .u16 c, .slice B m d] w fun e w' => e = .returned (.int .i64 (adv A c)) ∧ w = w' := by
  obtain ⟨c0, c1⟩ := hc
  obtain ⟨k, rfl⟩ := Int.eq_ofNat_of_zero_le c0
  by_cases hlt : k < m
  · obtain ⟨b, rfl, hcell⟩ := adv_cell hA.out hlt
    have hlt' : (k : Int) < (m : Int) := by omega
    go_enter Try.func38, Try.ntmps38
    go_wp2_with fail
    go_ret
    exact ⟨rfl, rfl⟩
  · have hn := adv_none (A := A) (k := k) (by have := hA.out.len; omega)
    rw [hn]
    clear hn
    have hlt' : ¬ (k : Int) < (m : Int) := by omega
    go_enter Try.func38, Try.ntmps38
    go_wp2_with fail
    go_ret
    exact ⟨rfl, rfl⟩

/-- What the loop of Wide keeps. -/
structure WideInv (w0 : World) (q n : Nat) (F : List Int) (wr : World) : Prop where
  row : IBox wr q F
  ge : w0.heap.size ≤ q
  len : F.length = n
  hb : Below w0.heap.size w0 wr

theorem u16_cell {w : World} {B : Option Addr} {m d : Nat} {u : List Int} (h : Sl u16E w B m d u) {k : Nat} (hk : k < m) : ∃ b, B = some b ∧ b.block < w.heap.size ∧ w.cell? (b.add k) = some (.int .u16 (u.getD k 0)) := by
  have hl : k < u.length := by rw [← h.len]; exact hk
  obtain ⟨b, e, hb, hc⟩ := h.at_.get u16E_len (List.getElem?_eq_getElem hl)
  refine ⟨b, e, hb, ?_⟩
  have := hc 0 _ rfl
  rw [List.getD_eq_getElem?_getD, List.getElem?_eq_getElem hl]
  simpa using this
theorem u16_get {u : List Int} (h : ∀ x ∈ u, U16 x) (k : Nat) : U16 (u.getD k 0) := by
  rw [List.getD_eq_getElem?_getD]
  cases e : u[k]? with
  | none => simp [U16]
  | some z => exact h z (List.mem_of_getElem? e)
theorem infoI6 : (Try.prog.info? 2).map (fun i => (i.zero, i.size, i.bytes)) = some (some (.int .i64 0), 1, 8) := by kernel_rfl

set_option maxRecDepth 100000 in
set_option maxHeartbeats 1600000 in
theorem wide_h (U : Option Addr) (n c : Nat) (u : List Int) (B : Option Addr) (m d : Nat) (A : List Int) (w : World) (hU : Hid (Sl u16E w U n c u)) (hu : Hid (∀ x ∈ u, U16 x)) (hA : Hid (Sl intE w B m d A)) (ha : Hid (∀ z ∈ A, I64 z)) (hn : n ≤ 1000000) :
    Calls Try.prog 22 #[.slice U n c, .slice B m d] w fun e w' => e = .returned (.tuple #[.int .i64 (cutI (wideS A u)), .bool (farI (wideS A u))]) ∧ Below w.heap.size w w' := by
  have hmk := fun W => make_row (P := Try.prog) 23 2 (.int .i64 0) 1 8 Try.underlying23 infoI6 (by decide) n n (n : Int) (n : Int) rfl rfl (Nat.le_refl _) (by omega) W
  rw [Nat.mul_one] at hmk
  have hst : Hid (WideInv w w.heap.size n (List.replicate n 0) (w.alloc (madeObj (.int .i64 0) n 2))) :=
    Lib.hid ⟨IBox.made w n 0 _, Nat.le_refl _, by simp, (Below.refl _ _).alloc (Nat.le_refl _) _⟩
  go_enter Try.func22, Try.ntmps22
  go_wp2_with fail
  generalize hW : World.alloc w _ = V at *
  obtain ⟨q, hq⟩ : ∃ q, q = w.heap.size := ⟨_, rfl⟩
  rw [← hq] at hst ⊢
  clear hW hq hmk
  go_loopw [14] (fun i wr => ∃ k : Nat, k ≤ n ∧ i = .int .i64 k ∧ ∃ F, Hid (WideInv w q n F wr) ∧ Hid (∀ j, j < k → F[j]? = some (adv A (u.getD j 0)))) (fun i _ => n - (intOf i).toNat)
  case atStart => exact ⟨0, Nat.zero_le _, rfl, _, hst, Lib.hid (fun j hj => by omega)⟩
  case round =>
    clear hst
    obtain ⟨k, hk, rfl, F, hR, hF⟩ := hrel
    by_cases hlt : k < n
    case neg =>
      have e : F = advs A u := by
        apply List.ext_getElem?
        intro i
        have hl := hU.out.len
        by_cases hi : i < n
        · rw [hF.out i (by omega), List.getD_eq_getElem?_getD, List.getElem?_eq_getElem (by omega)]
          simp [advs, List.getElem?_eq_getElem (show i < u.length by omega)]
        · rw [List.getElem?_eq_none (by rw [hR.out.len]; omega), List.getElem?_eq_none (by simp [advs]; omega)]
      subst e
      have hS : Hid (Ints wr wr.heap.size (some ⟨q, 0, none⟩) (advs A u)) := Lib.hid (by
        refine ⟨advs_i64 ha.out u, fun hl => ⟨_, rfl, hR.out.row.lt_, fun i hi => ?_⟩⟩
        have := hR.out.row.at_ (i := i) (List.getElem?_eq_getElem hi)
        rw [List.getD_eq_getElem?_getD, List.getElem?_eq_getElem hi]
        unfold Addr.add
        by_cases h0 : i = 0
        · subst h0; simpa using this
        · simpa [h0] using this)
      have hlt' : ¬ (k : Int) < (n : Int) := by omega
      have hlen : Hid (n = (advs A u).length) := Lib.hid hR.out.len.symm
      have cs := sum_any (some ⟨q, 0, none⟩) n n (advs A u) wr hS.out hlen hn
      have hbw := Lib.hid hR.out.hb
      clear hS hR hF
      go_wp2_with fail
      refine cs.mono ?_; rintro e w2 ⟨rfl, hb2⟩
      replace hb2 := Lib.hid (hbw.out.trans (hb2.1.mono hbw.out.size))
      go_wp2_with fail
      go_ret2
      exact ⟨rfl, hb2.out⟩
    have i1 : (0 : Int) ≤ (k : Int) := by omega
    have i2 : (k : Int) < (n : Int) := by omega
    obtain ⟨b, rfl, hbb, hcu0⟩ := u16_cell hU.out hlt
    have hcu := (hR.out.hb.cell (p := b.add k) (by rw [add_block]; exact hbb)).trans hcu0
    have hA2 := hA.out.below hR.out.hb
    have hxu := u16_get hu.out k
    have hF2 : Hid (∀ j, j < k + 1 → (F.set k (adv A (u.getD k 0)))[j]? = some (adv A (u.getD j 0))) := Lib.hid (fun j hj => by
        by_cases e : j = k
        · subst e; rw [List.getElem?_set_self (by rw [hR.out.len]; exact hlt)]
        · rw [List.getElem?_set_ne (by omega)]; exact hF.out j (by omega))
    generalize u.getD k 0 = x at *
    have ca := adv_h x B m d A wr hxu (Lib.hid hA2)
    have ff := hR.out.row.free_ (i := k) (by rw [hR.out.len]; exact hlt)
    have cc : ∃ z, wr.cell? ⟨q, k, none⟩ = some (.int .i64 z) := ⟨_, hR.out.row.at_ (List.getElem?_eq_getElem (by rw [hR.out.len]; exact hlt))⟩
    obtain ⟨z, cc⟩ := cc
    have hR2 : Hid (WideInv w q n (F.set k (adv A x)) (wr.setCell ⟨q, k, none⟩ (.int .i64 (adv A x)))) :=
      Lib.hid ⟨hR.out.row.set_ (by rw [hR.out.len]; exact hlt) _, hR.out.ge, by rw [List.length_set, hR.out.len], hR.out.hb.setCell (p := ⟨q, k, none⟩) hR.out.ge _⟩
    clear hxu hA2 hcu0
    replace ca := Lib.hid ca
    go_wp2_with (go_at_call 38; refine ca.out.mono ?_; rintro e w1 ⟨rfl, rfl⟩)
    go_roundw
    case rel => exact ⟨k + 1, by omega, by go_num, _, hR2, hF2⟩
    case measure => simp [intOf]; omega
end Go.Proofs.Ytnmfcbmdopmglaa
