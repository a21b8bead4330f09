/-
  Contract of package edges: column: the numbers of some sides, of all of a list.
-/
import Derived.Test.YtflehhepnmcdeaaCover
namespace Go.Proofs.Ytflehhepnmcdeaa
open Go.RowKit

/-- The number of a side. -/
def pick (r : Four) (s : Int) : Int := if s = 0 then r.a else if s = 1 then r.b else if s = 2 then r.c else r.d
def columnI (l : List Four) (ss : List Int) : List Int := l.flatMap fun r => ss.map (pick r)
theorem infoInt : (Try.prog.info? 2).map (fun i => (i.zero, i.size, i.bytes)) = some (some (.int .i64 0), 1, 8) := by kernel_rfl

/-- What column's loops keep: so many numbers so far. -/
def ColInv (w0 : World) (out : List Int) (v : Value) (wr : World) : Prop := wr.ownsRow w0.heap.size 2 1 v out.length (out.flatMap intE) ∧ Below w0.heap.size w0 wr

theorem columnI_len (l : List Four) (ss : List Int) : (columnI l ss).length = l.length * ss.length := by
  unfold columnI
  induction l with
  | nil => simp
  | cons x l ih => simp [ih, Nat.add_mul, Nat.add_comm]
theorem columnI_succ {l : List Four} {ss : List Int} {k : Nat} {x : Four} (h : l[k]? = some x) : columnI (l.take (k + 1)) ss = columnI (l.take k) ss ++ ss.map (pick x) := by
  unfold columnI; rw [List.take_add_one, h]; simp

theorem col_step {w0 wr w' : World} {out : List Int} {g : Nat} {v v' : Value} {y : Int} {x : Four} (h : ColInv w0 out v wr) (hg : Box wr g (fourE x)) (hv : v.ownBlock ≠ some g) (o : Obj)
    (h3 : w'.ownsRow w0.heap.size 2 1 v' (out.length + 1) ((out ++ [y]).flatMap intE)) (h4 : (wr.alloc o).grownBy w' v.ownBlock) (h5 : v'.ownBlock = v.ownBlock ∨ v'.ownBlock = some (wr.alloc o).heap.size) :
    ColInv w0 (out ++ [y]) v' w' ∧ Box w' g (fourE x) ∧ v'.ownBlock ≠ some g := by
  refine ⟨⟨by simpa using h3, (h.2.alloc h.2.size o).grown h4 (by have := h.2.size; simp; omega) (fun j hj => (h.1.lt j hj).1)⟩, (hg.alloc o).grown h4 (Ne.symm hv), ?_⟩
  rcases h5 with e | e
  · rw [e]; exact hv
  · rw [e]
    have := hg.lt
    intro e2
    simp at e2
    omega

set_option maxRecDepth 100000 in
set_option maxHeartbeats 1600000 in
theorem column_h (A S : Option Addr) (n c m cs : Nat) (l : List Four) (ss : List Int) (w : World) (h : Hid (Sl fourE w A n c l)) (hS : Hid (Sl intE w S m cs ss)) (hss : Hid (∀ s ∈ ss, 0 ≤ s ∧ s < 4)) (hn : n ≤ 10000) (hm : m ≤ 4) :
    Calls Try.prog 28 #[.slice A n c, .slice S m cs] w fun e w' => MadeSl intE w (columnI l ss) e w' := by
  have hnm : n * m ≤ 40000 := Nat.le_trans (Nat.mul_le_mul hn hm) (by decide)
  have hmk := fun W => make_row (P := Try.prog) 52 2 (.int .i64 0) 1 8 Try.underlying52 infoInt (by decide) 0 (n * m) 0 ((n : Int) * (m : Int)) rfl (by simp) (Nat.zero_le _) (by omega) W
  have hst : Hid (ColInv w (columnI (l.take 0) ss) (.slice (some ⟨w.heap.size, 0, none⟩) 0 (n * m)) (w.alloc (madeObj (.int .i64 0) (n * m * 1) 2))) :=
    Lib.hid ⟨made_own w.heap.size 2 (.int .i64 0) 1 (n * m) (Nat.le_refl _) (by omega), (Below.refl _ _).alloc (Nat.le_refl _) _⟩
  generalize n * m * 1 = q at *
  go_enter Try.func28, Try.ntmps28
  go_wp2_with fail
  clear hmk
  go_loopw [5, 18] (fun v i wr => ∃ k : Nat, k ≤ n ∧ i = .int .i64 k ∧ Hid (ColInv w (columnI (l.take k) ss) v wr)) (fun _ i _ => n - (intOf i).toNat)
  case atStart => exact ⟨0, Nat.zero_le _, rfl, hst⟩
  case round =>
    obtain ⟨k, hk, rfl, hinv⟩ := hrel
    by_cases hlt : k < n
    · obtain ⟨x, hx⟩ : ∃ x, l[k]? = some x := ⟨l[k]'(by rw [← h.out.len]; exact hlt), List.getElem?_eq_getElem _⟩
      obtain ⟨a, rfl, hab, c0, c1, c2, c3⟩ := (h.out.at_.keep hinv.out.2).four hx
      have hx' := Lib.hid hx
      have hi1 : (0 : Int) ≤ (k : Int) := by omega
      have hi2 : (k : Int) < (n : Int) := by omega
      clear hx
      go_wp2_with fail
      have hst2 : Hid (ColInv w (columnI (l.take k) ss ++ (ss.take 0).map (pick x)) u5 (wr.alloc (.cells (fourE x).toArray 24)) ∧ Box (wr.alloc (.cells (fourE x).toArray 24)) wr.heap.size (fourE x) ∧ u5.ownBlock ≠ some wr.heap.size) := by
        refine Lib.hid ⟨⟨?_, hinv.out.2.alloc hinv.out.2.size _⟩, Box.new wr (fourE x) _, fun e => ?_⟩
        · simpa using hinv.out.1.alloc (.cells (fourE x).toArray 24)
        · have := (hinv.out.1.lt _ e).2; omega
      have hsg : w.heap.size ≤ wr.heap.size := hinv.out.2.size
      clear c0 c1 c2 c3 hinv hst
      generalize wr.heap.size = g at *
      go_loopw [5, 24] (fun v i wr' => ∃ j : Nat, j ≤ m ∧ i = .int .i64 j ∧ Hid (ColInv w (columnI (l.take k) ss ++ (ss.take j).map (pick x)) v wr' ∧ Box wr' g (fourE x) ∧ v.ownBlock ≠ some g)) (fun _ i _ => m - (intOf i).toNat)
      case atStart => exact ⟨0, Nat.zero_le _, rfl, hst2⟩
      case round =>
        obtain ⟨j, hj, rfl, hinv⟩ := hrel
        by_cases hlt2 : j < m
        · obtain ⟨s, hs⟩ : ∃ s, ss[j]? = some s := ⟨ss[j]'(by rw [← hS.out.len]; exact hlt2), List.getElem?_eq_getElem _⟩
          obtain ⟨b, rfl, hbb, hbc⟩ := (hS.out.at_.keep hinv.out.1.2).int hs
          obtain ⟨h0, h4⟩ := hss.out s (List.mem_of_getElem? hs)
          have hb4 := hinv.out.2.1.four
          have hnx : Hid (∀ v' w', w'.ownsRow w.heap.size 2 1 v' ((columnI (l.take k) ss ++ (ss.take j).map (pick x)).length + 1) (((columnI (l.take k) ss ++ (ss.take j).map (pick x)) ++ [pick x s]).flatMap intE) →
              (wr.alloc (.cells ([pick x s].flatMap intE).toArray 2)).grownBy w' u5.ownBlock → (v'.ownBlock = u5.ownBlock ∨ v'.ownBlock = some (wr.alloc (.cells ([pick x s].flatMap intE).toArray 2)).heap.size) →
              ColInv w (columnI (l.take k) ss ++ (ss.take (j + 1)).map (pick x)) v' w' ∧ Box w' g (fourE x) ∧ v'.ownBlock ≠ some g) := Lib.hid (fun v' w' k1 k2 k3 => by
            have e : (ss.take (j + 1)).map (pick x) = (ss.take j).map (pick x) ++ [pick x s] := by rw [List.take_add_one, hs]; simp
            rw [e, ← List.append_assoc]
            exact col_step hinv.out.1 hinv.out.2.1 hinv.out.2.2 _ k1 k2 k3)
          have hown2 := Lib.hid (hinv.out.1.1.alloc (.cells ([pick x s].flatMap intE).toArray 2))
          have hlit := Lib.hid (Holds.lit (f := intE) wr [pick x s] 2)
          have hbase : Hid (w.heap.size ≤ (wr.alloc (.cells ([pick x s].flatMap intE).toArray 2)).heap.size) := Lib.hid (by have := hinv.out.1.2.size; simp; omega)
          have hlen : Hid ((columnI (l.take k) ss ++ (ss.take j).map (pick x)).length + 1 ≤ 100000000) := Lib.hid (by
            have e1 := columnI_len (l.take k) ss
            have e2 : (l.take k).length ≤ n := by rw [h.out.len]; exact List.length_take_le _ _ |> fun hh => Nat.le_trans hh (by rw [← h.out.len]; omega)
            have e3 : (l.take k).length * ss.length ≤ n * m := Nat.mul_le_mul e2 (by rw [hS.out.len]; exact Nat.le_refl _)
            have e4 : ((ss.take j).map (pick x)).length ≤ m := by simp; omega
            rw [List.length_append, e1]; omega)
          have hi1 : (0 : Int) ≤ (j : Int) := by omega
          have hi2 : (j : Int) < (m : Int) := by omega
          clear hs hinv hst2
          generalize columnI (l.take k) ss ++ (ss.take j).map (pick x) = out at *
          have hpk : (s = 0 → pick x s = x.a) ∧ (s = 1 → pick x s = x.b) ∧ (s = 2 → pick x s = x.c) ∧ (s = 3 → pick x s = x.d) := by unfold pick; refine ⟨?_, ?_, ?_, ?_⟩ <;> rintro rfl <;> simp
          rcases (by omega : s = 0 ∨ s = 1 ∨ s = 2 ∨ s = 3) with rfl | rfl | rfl | rfl
          · rw [hpk.1 rfl] at hnx hown2 hlit hbase
            clear hpk
            go_wp2_with (at_builtin; refine append_row rfl (.tmp 28) (.tmp 32) 52 2 rfl _ 8 Try.underlying52 infoInt rfl (by decide) (by decide) intE_len intE_one w.heap.size u5 out.length out rfl hown2.out _ _ 1 1 [_] rfl (fun h => by cases h) (Lib.hid rfl) hlit.out hlen.out hbase.out ?_; intro v' w' h3 h4 h5; have hnx := Lib.hid (hnx.out v' w' h3 h4 h5); clear h3 h4 h5)
            go_roundw
            case rel => exact ⟨j + 1, by omega, by go_num, hnx⟩
            case measure => simp [intOf]; omega
          · rw [hpk.2.1 rfl] at hnx hown2 hlit hbase
            clear hpk
            go_wp2_with (at_builtin; refine append_row rfl (.tmp 28) (.tmp 32) 52 2 rfl _ 8 Try.underlying52 infoInt rfl (by decide) (by decide) intE_len intE_one w.heap.size u5 out.length out rfl hown2.out _ _ 1 1 [_] rfl (fun h => by cases h) (Lib.hid rfl) hlit.out hlen.out hbase.out ?_; intro v' w' h3 h4 h5; have hnx := Lib.hid (hnx.out v' w' h3 h4 h5); clear h3 h4 h5)
            go_roundw
            case rel => exact ⟨j + 1, by omega, by go_num, hnx⟩
            case measure => simp [intOf]; omega
          · rw [hpk.2.2.1 rfl] at hnx hown2 hlit hbase
            clear hpk
            go_wp2_with (at_builtin; refine append_row rfl (.tmp 28) (.tmp 32) 52 2 rfl _ 8 Try.underlying52 infoInt rfl (by decide) (by decide) intE_len intE_one w.heap.size u5 out.length out rfl hown2.out _ _ 1 1 [_] rfl (fun h => by cases h) (Lib.hid rfl) hlit.out hlen.out hbase.out ?_; intro v' w' h3 h4 h5; have hnx := Lib.hid (hnx.out v' w' h3 h4 h5); clear h3 h4 h5)
            go_roundw
            case rel => exact ⟨j + 1, by omega, by go_num, hnx⟩
            case measure => simp [intOf]; omega
          · rw [hpk.2.2.2 rfl] at hnx hown2 hlit hbase
            clear hpk
            go_wp2_with (at_builtin; refine append_row rfl (.tmp 28) (.tmp 32) 52 2 rfl _ 8 Try.underlying52 infoInt rfl (by decide) (by decide) intE_len intE_one w.heap.size u5 out.length out rfl hown2.out _ _ 1 1 [_] rfl (fun h => by cases h) (Lib.hid rfl) hlit.out hlen.out hbase.out ?_; intro v' w' h3 h4 h5; have hnx := Lib.hid (hnx.out v' w' h3 h4 h5); clear h3 h4 h5)
            go_roundw
            case rel => exact ⟨j + 1, by omega, by go_num, hnx⟩
            case measure => simp [intOf]; omega
        · have hjm : j = m := by omega
          have hnx : Hid (ColInv w (columnI (l.take (k + 1)) ss) u5 wr) := by
            have hc := hinv.out.1
            rw [show ss.take j = ss from List.take_of_length_le (by rw [← hS.out.len]; omega), ← columnI_succ hx'.out] at hc
            exact Lib.hid hc
          clear hinv hst2 hjm
          go_wp2_with fail
          go_roundw
          case rel => exact ⟨k + 1, by omega, by go_num, hnx⟩
          case measure => simp [intOf]; omega
    · have hkn : k = n := by omega
      have hfin : Hid (∃ (E : Option Addr) (c' : Nat), u5 = .slice E (columnI l ss).length c' ∧ MadeSl intE w (columnI l ss) (.returned (.slice E (columnI l ss).length c')) wr) := by
        have hc := hinv.out
        rw [List.take_of_length_le (by rw [← h.out.len]; omega)] at hc
        obtain ⟨E, c', rfl, hS, hN⟩ := Sl.own hc.1 intE_len (by omega)
        exact Lib.hid ⟨E, c', rfl, E, c', rfl, hS, hc.2, hN⟩
      obtain ⟨E, c', rfl, hM⟩ := hfin.out
      have hM' := Lib.hid hM
      clear hfin hinv hkn hst hM
      generalize (columnI l ss).length = q2 at *
      go_wp2_with fail
      go_ret
      exact hM'.out

theorem column_any (A S : Option Addr) (n c m cs : Nat) (l : List Four) (ss : List Int) (w : World) (h : Sl fourE w A n c l) (hS : Sl intE w S m cs ss) (hss : ∀ s ∈ ss, 0 ≤ s ∧ s < 4) (hn : n ≤ 10000) (hm : m ≤ 4) :
    Calls Try.prog 28 #[.slice A n c, .slice S m cs] w fun e w' => MadeSl intE w (columnI l ss) e w' :=
  column_h A S n c m cs l ss w (Lib.hid h) (Lib.hid hS) (Lib.hid hss) hn hm
end Go.Proofs.Ytflehhepnmcdeaa
