/-
  Contracts of the document's Vast and of the statements' small.
-/
import Derived.Test.YtcgblbbadbkdgaaCheck
import Derived.Test.YtcgblbbadbkdgaaView6
namespace Go.Proofs.Ytcgblbbadbkdgaa
open Go.RowKit
set_option linter.unusedVariables false

def unitsN (ns : List NodeV) : Nat := (ns.map fun n => min n.s.un 5000).sum
def vsum (t : TreeV) : Nat := t.nn + t.an + unitsN t.ns
def vastB (t : TreeV) : Bool := decide (5000 < vsum t)
theorem unitsN_succ {ns : List NodeV} {k : Nat} {x : NodeV} (h : ns[k]? = some x) : unitsN (ns.take (k + 1)) = unitsN (ns.take k) + min x.s.un 5000 := by
  unfold unitsN; rw [List.take_add_one, h]; simp
theorem unitsN_app (a b : List NodeV) : unitsN (a ++ b) = unitsN a + unitsN b := by unfold unitsN; simp
theorem unitsN_take (ns : List NodeV) (k : Nat) : unitsN (ns.take k) ≤ unitsN ns := by
  have h := unitsN_app (ns.take k) (ns.drop k)
  rw [List.take_append_drop] at h
  omega
theorem unitsN_mem {ns : List NodeV} {x : NodeV} (h : x ∈ ns) : min x.s.un 5000 ≤ unitsN ns := by
  obtain ⟨a, b, rfl⟩ := List.append_of_mem h
  have : unitsN (x :: b) = min x.s.un 5000 + unitsN b := by unfold unitsN; simp
  rw [unitsN_app, this]
  omega
theorem int_min (a b : Nat) : min (a : Int) (b : Int) = ((min a b : Nat) : Int) := by omega

set_option maxRecDepth 100000 in
set_option maxHeartbeats 1600000 in
theorem vast5_h (t : TreeV) (w : World) (h : Hid (TreeOk w t)) :
    Calls Try.prog 30 #[.agg #[.slice t.na t.nn t.nc, .slice t.aa t.an t.ac, .int .i64 t.view]] w fun e w' => e = .returned (.bool (vastB t)) ∧ Below w.heap.size w w' := by
  have hln := Lib.hid h.out.at_.nodes.len
  have hnn := h.out.bn
  have han := h.out.ba
  have hlt2 : t.nn + t.an ≤ 9223372036854775807 := by omega
  go_enter Try.func30, Try.ntmps30
  go_upto_region 1 with fail
  generalize hW : World.alloc w _ = V
  have hT := TBox.start h.out.at_ hW
  obtain ⟨g, hg⟩ : ∃ g, g = w.heap.size := ⟨_, rfl⟩
  rw [← hg] at hT ⊢
  clear hW hg
  obtain ⟨k0, k1, k2⟩ := hT.cells
  replace hT := Lib.hid hT
  go_wp2_with fail
  go_loopw [3, 4] (fun n i wr => ∃ k : Nat, k ≤ t.nn ∧ i = .int .i64 k ∧ V = wr ∧ ∃ m : Nat, n = .int .i64 m ∧ Hid (m = t.nn + t.an + unitsN (t.ns.take k)) ∧ (m ≤ 9223372036854775807)) (fun _ i _ => t.nn - (intOf i).toNat)
  case atStart => exact ⟨0, Nat.zero_le _, rfl, rfl, t.nn + t.an, by simp, Lib.hid (by simp [unitsN]), hlt2⟩
  case round =>
    obtain ⟨k, hk, rfl, rfl, m, rfl, hm, hmb⟩ := hrel
    by_cases hlt : k < t.nn
    case neg =>
      have hlt' : ¬ (k : Int) < (t.nn : Int) := by omega
      have ht : Hid (t.ns.take k = t.ns) := Lib.hid (List.take_of_length_le (by rw [← hln.out]; omega))
      rw [ht.out] at hm
      go_wp2_with fail
      go_ret
      refine ⟨?_, hT.out.hb⟩
      refine congrArg (fun b => Ending.returned (Value.bool b)) ?_
      have := hm.out
      unfold vastB vsum
      rw [Bool.eq_iff_iff]
      simp
      omega
    have hlt' : (k : Int) < (t.nn : Int) := by omega
    by_cases h5 : m ≤ 5000
    case neg =>
      have h5' : ¬ (m : Int) ≤ 5000 := by omega
      have h6 : (5000 : Int) < (m : Int) := by omega
      go_wp2_with fail
      go_ret
      refine ⟨?_, hT.out.hb⟩
      refine congrArg (fun b => Ending.returned (Value.bool b)) ?_
      have := hm.out
      have := unitsN_take t.ns k
      unfold vastB vsum
      symm
      simp
      omega
    have h5' : (m : Int) ≤ 5000 := by omega
    obtain ⟨x, hx⟩ : ∃ x, t.ns[k]? = some x := ⟨_, List.getElem?_eq_getElem (by rw [← hln.out]; exact hlt)⟩
    obtain ⟨a, ha, hab, -, ax⟩ := hT.out.at_.nodes.at_.node (Nat.le_refl _) hx
    rw [ha] at k0
    have cu := ax.2 42 _ rfl
    have hnx := Lib.hid (unitsN_succ hx)
    have i1 : (0 : Int) ≤ (k : Int) := by omega
    have hmin := Lib.hid (int_min x.s.un 5000)
    obtain ⟨un, hun⟩ : ∃ un, x.s.un = un := ⟨_, rfl⟩
    rw [hun] at cu hnx hmin
    have hml : Hid (min un 5000 ≤ 5000) := Lib.hid (Nat.min_le_right _ _)
    obtain ⟨mu, hmu⟩ : ∃ mu, min un 5000 = mu := ⟨_, rfl⟩
    rw [hmu] at hnx hmin hml
    have hmi : min (un : Int) 5000 = (mu : Int) := hmin.out
    have hml2 : mu ≤ 5000 := hml.out
    clear hx ax hun hmin hml hmu ha
    go_wp2_with fail
    go_roundw
    case rel => exact ⟨k + 1, by omega, by go_num, trivial, m + mu, rfl, Lib.hid (by rw [hnx.out, ← Nat.add_assoc, ← hm.out]), by omega⟩
    case measure => simp [intOf]; omega

/-- What small asks. -/
structure Small (t : TreeV) : Prop where
  nn : t.nn ≤ 700
  an : t.an ≤ 5000
  un : ∀ x ∈ t.ns, x.s.un ≤ 5000
  vs : vsum t ≤ 5000
def smallB (t : TreeV) : Bool := !vastB t && decide (t.nn ≤ 700)
theorem small_of {t : TreeV} (h : smallB t = true) (hl : t.nn = t.ns.length) : Small t := by
  unfold smallB vastB at h
  simp at h
  have h0 := h.1
  have h1 := h.1
  unfold vsum at h1
  refine ⟨h.2, by omega, fun x hx => ?_, h0⟩
  have h3 := unitsN_mem hx
  have h4 := List.length_pos_of_mem hx
  omega

theorem TreeOk.below {w w' : World} {t : TreeV} (h : TreeOk w t) (hb : Below w.heap.size w w') : TreeOk w' t :=
  ⟨h.at_.below hb, h.nc, h.ac, fun r hr => by
    obtain ⟨h1, h2, h3, l, h4, h5⟩ := h.nodes r hr
    exact ⟨h1, h2, h3, l, h4.below hb, h5⟩, h.advs, h.view, h.bn, h.ba⟩
set_option maxRecDepth 100000 in
theorem small_h (t : TreeV) (w : World) (h : Hid (TreeOk w t)) :
    Calls Try.prog 15 #[.agg #[.slice t.na t.nn t.nc, .slice t.aa t.an t.ac, .int .i64 t.view]] w fun e w' => e = .returned (.bool (smallB t)) ∧ Below w.heap.size w w' := by
  have hd : Hid (smallB t = (!vastB t && decide (t.nn ≤ 700))) := Lib.hid rfl
  go_enter Try.func15, Try.ntmps15
  go_upto_region 1 with fail
  generalize hW : World.alloc w _ = V
  have hT := TBox.start h.out.at_ hW
  obtain ⟨g, hg⟩ : ∃ g, g = w.heap.size := ⟨_, rfl⟩
  rw [← hg] at hT ⊢
  clear hW hg
  obtain ⟨k0, k1, k2⟩ := hT.cells
  have kv := vast5_h t V (Lib.hid ⟨hT.at_, h.out.nc, h.out.ac, fun r hr => by
    obtain ⟨h1, h2, h3, l, h4, h5⟩ := h.out.nodes r hr
    exact ⟨h1, h2, h3, l, h4.below hT.hb, h5⟩, h.out.advs, h.out.view, h.out.bn, h.out.ba⟩)
  replace hT := Lib.hid hT
  generalize vastB t = b at *
  have hn : (decide ((t.nn : Int) ≤ 700)) = decide (t.nn ≤ 700) := by rw [Bool.eq_iff_iff]; simp; omega
  cases b
  · go_wp2_with (go_at_call 30; refine kv.mono ?_; rintro e w1 ⟨rfl, hb1⟩; have hT1 := Lib.hid (hT.out.below hb1); obtain ⟨m0, m1, m2⟩ := hT1.out.cells)
    go_ret
    exact ⟨by rw [hd.out, ← hn]; rfl, hT1.out.hb⟩
  · go_wp2_with (go_at_call 30; refine kv.mono ?_; rintro e w1 ⟨rfl, hb1⟩; have hT1 := Lib.hid (hT.out.below hb1))
    go_ret
    exact ⟨by rw [hd.out]; rfl, hT1.out.hb⟩
end Go.Proofs.Ytcgblbbadbkdgaa
