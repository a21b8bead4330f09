/-
  Contracts of the document's table: All; and of the statements' same.
-/
import Derived.Test.YthkngenmdogpjaaRef3b
namespace Go.Proofs.Ythkngenmdogpjaa
open Go.RowKit

/-- What All's loop keeps: the values so far. -/
def AllInv (w : World) (l : List (Option Pair)) (k : Nat) (v : Value) (wr : World) : Prop :=
  wr.ownsRow w.heap.size 30 2 v k ((allVP (l.take k)).flatMap pairE) ∧ Below w.heap.size w wr ∧ leftN (l.take k) = 0
theorem allinv_start (w : World) (l : List (Option Pair)) : AllInv w l 0 (.slice none 0 0) w := ⟨by simpa [allVP] using World.ownsRow_nil (w := w) _ _ _, Below.refl _ _, by simp [leftN]⟩
theorem allinv_next {w wr w' : World} {l : List (Option Pair)} {k : Nat} {v v' : Value} {x : Pair} (o : Obj) (h : AllInv w l k v wr) (hx : l[k]? = some (some x)) (h1 : w'.ownsRow w.heap.size 30 2 v' (k + 1) ((allVP (l.take k) ++ [x]).flatMap pairE)) (h2 : (wr.alloc o).grownBy w' v.ownBlock) :
    AllInv w l (k + 1) v' w' := by
  obtain ⟨h3, h4, h5⟩ := h
  refine ⟨?_, (h4.alloc h4.size o).grown h2 (by have := h4.size; simp; omega) (fun j hj => (h3.lt j hj).1), ?_⟩
  · have e : allVP (l.take (k + 1)) = allVP (l.take k) ++ [x] := by
      rw [List.take_add_one, hx]
      simp [allVP]
    rw [e]
    exact h1
  · rw [leftN_succ hx, h5]
    rfl
theorem leftN_drop {α : Type} {l : List (Option α)} {k : Nat} (h : l[k]? = some none) : 0 < leftN l := by
  have h1 := leftN_succ h
  have h2 : leftN l = leftN (l.take (k + 1)) + leftN (l.drop (k + 1)) := by
    conv => lhs; rw [← List.take_append_drop (k + 1) l]
    simp only [leftN, List.map_append, List.sum_append]
  simp only [leftOf] at h1
  omega
theorem leftN_some {α : Type} : ∀ {l : List (Option α)}, leftN l = 0 → ∀ {k : Nat} {o : Option α}, l[k]? = some o → ∃ x, o = some x := by
  intro l h k o hk
  cases o with
  | none => have := leftN_drop hk; omega
  | some x => exact ⟨x, rfl⟩

set_option maxRecDepth 100000 in
set_option maxHeartbeats 1600000 in
theorem rAll_h (rb rc : Nat) (l : List (Option Pair)) (w : World) (h : Hid (Ref w rb rc l)) (hn : l.length ≤ 65536) :
    Calls Try.prog 19 #[.pointer (some ⟨rb, 0, none⟩)] w fun e w' => Below w.heap.size w w' ∧ ((0 < leftN l ∧ e = .returned (.tuple #[.slice none 0 0, .int .i64 4])) ∨
      (leftN l = 0 ∧ ∃ (E : Option Addr) (c : Nat), e = .returned (.tuple #[.slice E l.length c, .int .i64 0]) ∧ Sl pairE w' E l.length c (allVP l) ∧ New w.heap.size E)) := by
  have hst := Lib.hid (allinv_start w l)
  have h0 := h.out.head.cell 0 _ rfl
  obtain ⟨n, hl⟩ : ∃ n, Hid (l.length = n) := ⟨_, Lib.hid rfl⟩
  rw [hl.out] at h0 hn
  go_enter Try.func19, Try.ntmps19
  go_wp2_with fail
  go_loopw [4, 5] (fun v i wr => ∃ k : Nat, k ≤ n ∧ i = .int .i64 k ∧ Hid (AllInv w l k v wr)) (fun _ i _ => n - (intOf i).toNat)
  case atStart => exact ⟨0, Nat.zero_le _, rfl, hst⟩
  case round =>
    obtain ⟨k, hk, rfl, hinv⟩ := hrel
    have hR := Lib.hid (h.out.below ((hinv.out.2.1).mono (Nat.le_refl _)))
    have h0 := hR.out.head.cell 0 _ rfl
    rw [hl.out] at h0
    by_cases hlt : k < n
    · obtain ⟨o, ho⟩ : ∃ o, l[k]? = some o := ⟨_, List.getElem?_eq_getElem (by rw [hl.out]; exact hlt)⟩
      have i1 : (0 : Int) ≤ (k : Int) := by omega
      have i2 : (k : Int) < (n : Int) := by omega
      have hc := hR.out.chunk ho
      have hkl : k < l.length := by rw [hl.out]; exact hlt
      cases o with
      | none =>
        have c0 := hc.chunk_cell refE_len hkl 0 rfl
        simp only [Nat.add_zero] at c0
        have hd := Lib.hid (leftN_drop ho)
        clear hc hkl
        go_wp2_with fail
        refine bodyPost_ret (v := .tuple #[.slice none 0 0, .int .i64 4]) (by simp [results, Try.results19, go_sem]) rfl ?_
        exact ⟨hinv.out.2.1, .inl ⟨hd.out, rfl⟩⟩
      | some x =>
        have c0 := hc.chunk_cell refE_len hkl 0 rfl
        have c1 := hc.chunk_cell refE_len hkl 1 rfl
        have c2 := hc.chunk_cell refE_len hkl 2 rfl
        simp only [Nat.add_zero] at c0
        clear hc hkl
        have hlit := Lib.hid (Holds.lit (f := pairE) wr [x] 30)
        have hown2 := Lib.hid (hinv.out.1.alloc (.cells ([x].flatMap pairE).toArray 30))
        have ho' := Lib.hid ho
        have hnx := Lib.hid (fun v' w' h1 h2 => allinv_next (v := u4) (v' := v') (w' := w') (Obj.cells ([x].flatMap pairE).toArray 30) hinv.out ho'.out h1 h2)
        have hbase : Hid (w.heap.size ≤ (wr.alloc (.cells ([x].flatMap pairE).toArray 30)).heap.size) := Lib.hid (by have := hinv.out.2.1.size; simp; omega)
        clear ho
        go_wp2_with (at_builtin; refine append_row rfl (.tmp 26) (.tmp 35) 43 30 rfl _ 24 Try.underlying43 infoP rfl (by decide) (by decide) pairE_len pairE_one w.heap.size u4 k (allVP (l.take k)) rfl hown2.out _ _ 1 1 [x] rfl (fun h => by cases h) (Lib.hid rfl) hlit.out (by omega) hbase.out ?_; intro v' w' h3 h4 h5; have hnx := Lib.hid (hnx.out v' w' h3 h4); clear h3 h4 h5)
        go_roundw
        case rel => exact ⟨k + 1, by omega, by go_num, hnx⟩
        case measure => simp [intOf]; omega
    · have hkn : k = n := by omega
      have hfin : Hid (∃ (E : Option Addr) (c' : Nat), u4 = .slice E n c' ∧ (leftN l = 0 ∧ Sl pairE wr E n c' (allVP l) ∧ New w.heap.size E ∧ Below w.heap.size w wr)) := by
        obtain ⟨hown, hb, hz⟩ := hinv.out
        rw [List.take_of_length_le (by rw [hl.out]; omega)] at hown hz
        obtain ⟨E, c', rfl, hS, hN⟩ := Sl.own hown pairE_len (by omega)
        exact Lib.hid ⟨E, c', by rw [hkn], hz, by rw [← hkn]; exact hS, hN, hb⟩
      obtain ⟨E, c', rfl, hM⟩ := hfin.out
      have hM := Lib.hid hM
      clear hfin hinv hkn
      go_wp2_with fail
      go_ret2
      exact ⟨hM.out.2.2.2, .inr ⟨hM.out.1, E, c', by rw [hl.out]; rfl, by rw [hl.out]; exact hM.out.2.1, hM.out.2.2.1⟩⟩

theorem pair_eq (a : Int) (b : ByteArray) (w : World) : (Op.equalIn 10000 30 (.agg #[.int .i64 a, .string b]) (.agg #[.int .i64 a, .string b])).run Try.prog w = .ok true w := by
  have u3 := Try.underlying2
  have a3 := Try.isAgg2
  have z3 := Try.sizeOf2
  have u4 := Try.underlying9
  have a4 := Try.isAgg9
  have z4 := Try.sizeOf9
  have hS : Try.prog.underlying 30 = some (.struct (Try.prog.fieldsOf 30)) := by kernel_rfl
  have hp : Try.prog.stoodInHeld 30 = false := by kernel_rfl
  rw [show (10000 : Nat) = 9999 + 1 from rfl, run_equalIn_agg w 9999 30 _ _ hS hp]
  simp only [Program.fieldsOf, Try.underlying30]
  go_simp

set_option maxRecDepth 100000 in
set_option maxHeartbeats 1600000 in
theorem same_h (A B : Option Addr) (n c m d : Nat) (l : List Pair) (w : World) (h : Hid (Sl pairE w A n c l)) (k : Hid (Sl pairE w B m d l)) (hn : n ≤ 65536) :
    Calls Try.prog 20 #[.slice A n c, .slice B m d] w fun e w' => e = .returned (.bool true) ∧ Below w.heap.size w w' := by
  have e : n = m := by rw [h.out.len, k.out.len]
  subst e
  have hq := fun x : Pair => pair_eq x.a x.b
  go_enter Try.func20, Try.ntmps20
  go_wp2_with fail
  go_loopw [5] (fun i wr => ∃ j : Nat, j ≤ n ∧ i = .int .i64 j ∧ Hid (Below w.heap.size w wr)) (fun i _ => n - (intOf i).toNat)
  case atStart => exact ⟨0, Nat.zero_le _, rfl, Lib.hid (Below.refl _ _)⟩
  case round =>
    obtain ⟨j, hj, rfl, hb⟩ := hrel
    by_cases hlt : j < n
    · obtain ⟨x, hx⟩ : ∃ x, l[j]? = some x := ⟨_, List.getElem?_eq_getElem (by rw [← h.out.len]; exact hlt)⟩
      obtain ⟨a, ea, _, a0, a1⟩ := (h.out.at_.keep hb.out).pair hx
      obtain ⟨b, eb, _, b0, b1⟩ := (k.out.at_.keep hb.out).pair hx
      subst ea eb
      have i1 : (0 : Int) ≤ (j : Int) := by omega
      have i2 : (j : Int) < (n : Int) := by omega
      go_wp2_with fail
      go_quiet (fail)
      have hb := Lib.hid (bl_drewN hb.out nq)
      clear a0 a1 b0 b1
      go_wp2_with fail
      go_roundw
      case rel => exact ⟨j + 1, by omega, by go_num, hb⟩
      case measure => simp [intOf]; omega
    · have e : j = n := by omega
      subst e
      go_wp2_with fail
      go_ret
      exact ⟨rfl, hb.out⟩
end Go.Proofs.Ythkngenmdogpjaa
