/-
  Rows of words (pure), and the contract of package text: rowWide.
-/
import Derived.Test.YtnmfcbmdopmglaaRWords2
namespace Go.Proofs.Ytnmfcbmdopmglaa
open Go.RowKit
set_option linter.unusedVariables false

/-- What a row's width is the sum of. -/
def rowI : List Wrd → List Int
  | [] => []
  | x :: xs => x.w :: xs.flatMap fun y => [y.w, y.g]
def rowS (l : List Wrd) : Int := (rowI l).sum
theorem rowI_first {l : List Wrd} {x : Wrd} (h : l[0]? = some x) : rowI (l.take (0 + 1)) = rowI (l.take 0) ++ [x.w] := by
  cases l with
  | nil => cases h
  | cons y l => simp at h; subst h; rfl
theorem rowI_next {l : List Wrd} {k : Nat} {x : Wrd} (hk : 0 < k) (h : l[k]? = some x) : rowI (l.take (k + 1)) = rowI (l.take k) ++ [x.w] ++ [x.g] := by
  obtain ⟨hl, rfl⟩ := List.getElem?_eq_some_iff.1 h
  cases l with
  | nil => simp at hl
  | cons y l =>
    obtain ⟨j, rfl⟩ : ∃ j, k = j + 1 := ⟨k - 1, by omega⟩
    have hj : j < l.length := by simpa using hl
    simp only [List.take_succ_cons, rowI, List.getElem_cons_succ, List.append_assoc]
    rw [List.take_succ_eq_append_getElem hj, List.flatMap_append]
    simp
theorem pairs_len (l : List Wrd) : (l.flatMap fun y => [y.w, y.g]).length = l.length * 2 := by
  induction l with
  | nil => rfl
  | cons y l ih => rw [List.flatMap_cons, List.length_append, ih, List.length_cons]; simp; omega
theorem rowI_len (l : List Wrd) : (rowI l).length ≤ 2 * l.length := by
  cases l with
  | nil => simp [rowI]
  | cons x l => rw [rowI, List.length_cons, pairs_len, List.length_cons]; omega
theorem rowI_i64 {l : List Wrd} (h : ∀ x ∈ l, WrdOk x) : ∀ z ∈ rowI l, I64 z := by
  cases l with
  | nil => intro z hz; cases hz
  | cons x l =>
    intro z hz
    simp only [rowI, List.mem_cons, List.mem_flatMap] at hz
    rcases hz with rfl | ⟨y, hy, hz⟩
    · exact (h x (List.mem_cons_self ..)).2.2.1
    · have := h y (List.mem_cons_of_mem _ hy)
      rcases hz with rfl | rfl | hz
      · exact this.2.2.1
      · exact this.2.2.2.1
      · cases hz

/-- Where a word's fields lie, as the walk writes it. -/
theorem Holds.wrd {w : World} {B : Nat} {A : Option Addr} {l : List Wrd} (h : Holds wrdE w B A l) {i : Nat} {x : Wrd} (hx : l[i]? = some x) :
    ∃ a, A = some a ∧ a.block < B ∧ w.cell? (a.add (i * 5)) = some (.int .i64 x.s) ∧ w.cell? ⟨(a.add (i * 5)).block, (a.add (i * 5)).off + 1, none⟩ = some (.int .i64 x.t) ∧ w.cell? ⟨(a.add (i * 5)).block, (a.add (i * 5)).off + 2, none⟩ = some (.int .i64 x.w) ∧
      w.cell? ⟨(a.add (i * 5)).block, (a.add (i * 5)).off + 3, none⟩ = some (.int .i64 x.g) ∧ w.cell? ⟨(a.add (i * 5)).block, (a.add (i * 5)).off + 4, none⟩ = some (.int .i64 x.e) := by
  obtain ⟨a, rfl, hb, hc⟩ := h.get wrdE_len hx
  refine ⟨a, rfl, hb, hc 0 _ rfl, ?_, ?_, ?_, ?_⟩
  · rw [add_off _ _ _ (by omega)]; exact hc 1 _ rfl
  · rw [add_off _ _ _ (by omega)]; exact hc 2 _ rfl
  · rw [add_off _ _ _ (by omega)]; exact hc 3 _ rfl
  · rw [add_off _ _ _ (by omega)]; exact hc 4 _ rfl

set_option maxRecDepth 100000 in
set_option maxHeartbeats 1600000 in
theorem rowwide_h (R : Option Addr) (n c : Nat) (l : List Wrd) (w : World) (hR : Hid (Sl wrdE w R n c l)) (hl : Hid (∀ x ∈ l, WrdOk x)) (hn : n ≤ 400000) :
    Calls Try.prog 47 #[.slice R n c] w fun e w' => e = .returned (.tuple #[.int .i64 (cutI (rowS l)), .bool (farI (rowS l))]) ∧ Below w.heap.size w w' := by
  have hmk := fun W => make_row (P := Try.prog) 23 2 (.int .i64 0) 1 8 Try.underlying23 infoI6 (by decide) 0 (2 * n) 0 (2 * (n : Int)) rfl (by simp) (Nat.zero_le _) (by omega) W
  have hst : Hid (GRow intE 2 1 w (.slice (some ⟨w.heap.size, 0, none⟩) 0 (2 * n)) (rowI (l.take 0)) (w.alloc (madeObj (.int .i64 0) (2 * n * 1) 2))) :=
    Lib.hid ⟨made_own _ _ _ _ _ (Nat.le_refl _) (by omega), (Below.refl _ _).alloc (Nat.le_refl _) _⟩
  go_enter Try.func47, Try.ntmps47
  go_wp2_with fail
  simp only [Nat.mul_one] at hst hmk ⊢
  generalize hW : World.alloc w _ = V at *
  clear hW hmk
  generalize Value.slice (some ⟨w.heap.size, 0, none⟩) 0 (2 * n) = v0 at *
  go_loopw [4, 13] (fun v i wr => ∃ k : Nat, k ≤ n ∧ i = .int .i64 k ∧ Hid (GRow intE 2 1 w v (rowI (l.take k)) wr)) (fun _ i _ => n - (intOf i).toNat)
  case atStart => exact ⟨0, Nat.zero_le _, rfl, hst⟩
  case round =>
    clear hst
    obtain ⟨k, hk, rfl, hG⟩ := hrel
    by_cases hlt : k < n
    case neg =>
      have e : l.take k = l := List.take_of_length_le (by rw [← hR.out.len]; omega)
      rw [e] at hG
      obtain ⟨E, c', rfl, hS, hN⟩ := hG.out.fin intE_len (by omega)
      have hlen := rowI_len l
      rw [← hR.out.len] at hlen
      have cs := sum_any E c' (rowI l).length (rowI l) wr (hS.at_.ints (rowI_i64 hl.out)) (Lib.hid rfl) (by omega)
      have hbw := Lib.hid hG.out.hb
      have hlt' : ¬ (k : Int) < (n : Int) := by omega
      replace cs := Lib.hid cs
      clear hS hN hG hlen e
      go_wp2_with fail
      refine cs.out.mono ?_; rintro e w2 ⟨rfl, hb2⟩
      replace hb2 := Lib.hid (hbw.out.trans (hb2.1.mono hbw.out.size))
      go_wp2_with fail
      go_ret2
      exact ⟨rfl, hb2.out⟩
    have i1 : (0 : Int) ≤ (k : Int) := by omega
    have i2 : (k : Int) < (n : Int) := by omega
    obtain ⟨x, hx⟩ : ∃ x, l[k]? = some x := ⟨l[k]'(by rw [← hR.out.len]; exact hlt), List.getElem?_eq_getElem _⟩
    obtain ⟨a, rfl, hab, c0, c1, c2, c3, c4⟩ := (hR.out.at_.keep hG.out.hb).wrd hx
    have hln : (rowI (l.take k)).length ≤ 2 * k := by have := rowI_len (l.take k); have : (l.take k).length ≤ k := List.length_take_le _ _; omega
    have hfar : u4.ownBlock ≠ some wr.heap.size := fun e => by have := (hG.out.row.lt _ e).2; omega
    have hG1 : Hid (GRow intE 2 1 w u4 (rowI (l.take k)) (wr.alloc (.cells #[.int .i64 x.s, .int .i64 x.t, .int .i64 x.w, .int .i64 x.g, .int .i64 x.e] 58))) := Lib.hid (hG.out.alloc _)
    have hbx : Hid (Box (wr.alloc (.cells #[.int .i64 x.s, .int .i64 x.t, .int .i64 x.w, .int .i64 x.g, .int .i64 x.e] 58)) wr.heap.size (wrdE x)) := Lib.hid (Box.new wr (wrdE x) _)
    replace hx := Lib.hid hx
    clear hG
    go_upto_region 5 with fail
    generalize hW : World.alloc wr _ = V1 at *
    generalize wr.heap.size = gw at *
    clear hW c0 c1 c2 c3 c4
    have b2 : V1.cell? ⟨gw, 2, none⟩ = some (.int .i64 x.w) := hbx.out.cell 2 _ rfl
    have b3 : V1.cell? ⟨gw, 3, none⟩ = some (.int .i64 x.g) := hbx.out.cell 3 _ rfl
    have hlit := Lib.hid (Holds.lit (f := intE) V1 [x.w] 2)
    have hA3 := hG1.out.alloc (.cells ([x.w].flatMap intE).toArray 2)
    have hown := Lib.hid hA3.row
    have hbase := Lib.hid (hG1.out.base (.cells ([x.w].flatMap intE).toArray 2))
    replace hA3 := Lib.hid hA3
    replace hfar := Lib.hid hfar
    clear hG1
    by_cases hk0 : k = 0
    · subst hk0
      have hnx := Lib.hid (rowI_first hx.out)
      generalize rowI (l.take 0) = out at *
      go_wp2_with (at_builtin; refine append_row rfl (.tmp 18) (.tmp 21) 23 2 rfl _ 8 Try.underlying23 infoI6 rfl (by decide) (by decide) intE_len intE_one w.heap.size u4 out.length out rfl hown.out _ _ 1 1 [_] rfl (fun h => by cases h) (Lib.hid rfl) hlit.out (by omega) hbase.out ?_; intro v' w' h3 h4 h5; have hR2 := Lib.hid (hA3.out.step h3 rfl h4); clear h3 h4 h5; rw [← hnx.out] at hR2)
      go_roundw
      case rel => exact ⟨0 + 1, by omega, by go_num, hR2⟩
      case measure => simp [intOf]; omega
    · have hpos : 0 < k := by omega
      have hpos' : (0 : Int) < (k : Int) := by omega
      have hnx := Lib.hid (rowI_next hpos hx.out)
      generalize rowI (l.take k) = out at *
      clear hk0
      go_upto_region 6 with (at_builtin; refine append_row rfl (.tmp 18) (.tmp 21) 23 2 rfl _ 8 Try.underlying23 infoI6 rfl (by decide) (by decide) intE_len intE_one w.heap.size u4 out.length out rfl hown.out _ _ 1 1 [_] rfl (fun h => by cases h) (Lib.hid rfl) hlit.out (by omega) hbase.out ?_; intro v1 w1 h3 h4 h5; have hR1 := hA3.out.step h3 rfl h4; have b31 := ((hbx.out.alloc (.cells ([x.w].flatMap intE).toArray 2)).grown h4 (fun e => hfar.out e.symm)).cell 3 _ rfl; clear h3 h4 h5)
      have hln1 : (out ++ [x.w]).length ≤ 2 * k + 1 := by rw [List.length_append]; simp only [List.length_cons, List.length_nil]; omega
      clear hlit hA3 hown hbase b2 b3 hbx hfar
      have hlit := Lib.hid (Holds.lit (f := intE) w1 [x.g] 2)
      have hA3 := hR1.alloc (.cells ([x.g].flatMap intE).toArray 2)
      have hown := Lib.hid hA3.row
      have hbase := Lib.hid (hR1.base (.cells ([x.g].flatMap intE).toArray 2))
      replace hA3 := Lib.hid hA3
      replace hR1 := Lib.hid hR1
      go_wp2_with (at_builtin; refine append_row rfl (.tmp 25) (.tmp 28) 23 2 rfl _ 8 Try.underlying23 infoI6 rfl (by decide) (by decide) intE_len intE_one w.heap.size v1 _ (out ++ [x.w]) rfl hown.out _ _ 1 1 [_] rfl (fun h => by cases h) (Lib.hid rfl) hlit.out (by omega) hbase.out ?_; intro v' w' h3 h4 h5; have hR2 := Lib.hid (hA3.out.step h3 rfl h4); clear h3 h4 h5; rw [← hnx.out] at hR2)
      go_roundw
      case rel => exact ⟨k + 1, by omega, by go_num, hR2⟩
      case measure => simp [intOf]; omega
end Go.Proofs.Ytnmfcbmdopmglaa
