/-
  Contracts of the statements' small functions of stage 6: units, table, vast; and of the document's Same at one list twice.
-/
import Derived.Test.YtnmfcbmdopmglaaRowWide
import Derived.Laws.StructEq
import Derived.ChangeKeysEq
import Derived.KernelRfl
import Derived.Deep.QuietTactic
import Derived.BigQuiet
namespace Go.Proofs.Ytnmfcbmdopmglaa
open Go.RowKit
set_option linter.unusedVariables false

theorem wrd_eq (x : Wrd) (w : World) : (Op.equalIn 10000 58 (wrdV x) (wrdV x)).run Try.prog w = .ok true w := by
  have u3 := Try.underlying2
  have a3 := Try.isAgg2
  have z3 := Try.sizeOf2
  have u5 := Try.underlying3
  have a5 := Try.isAgg3
  have z5 := Try.sizeOf3
  have hS : Try.prog.underlying 58 = some (.struct (Try.prog.fieldsOf 58)) := by kernel_rfl
  have hp : Try.prog.stoodInHeld 58 = false := by kernel_rfl
  rw [show (10000 : Nat) = 9999 + 1 from rfl, run_equalIn_agg w 9999 58 _ _ hS hp]
  simp only [Program.fieldsOf, Try.underlying58]
  go_simp

set_option maxRecDepth 100000 in
set_option maxHeartbeats 1600000 in
theorem same6_h (A B : Option Addr) (n c m d : Nat) (l : List Wrd) (w : World) (h : Hid (Sl wrdE w A n c l)) (k : Hid (Sl wrdE w B m d l)) (hn : n ≤ 1000000) :
    Calls Try.prog 24 #[.slice A n c, .slice B m d] w fun e w' => e = .returned (.bool true) ∧ Below w.heap.size w w' := by
  have e : n = m := by rw [h.out.len, k.out.len]
  subst e
  go_enter Try.func24, Try.ntmps24
  go_wp2_with fail
  go_loopw [5] (fun i wr => ∃ j : Nat, j ≤ n ∧ i = .int .i64 j ∧ Hid (Below w.heap.size w wr)) (fun i _ => n - (intOf i).toNat)
  case atStart => exact ⟨0, Nat.zero_le _, rfl, Lib.hid (Below.refl _ _)⟩
  case round =>
    obtain ⟨j, hj, rfl, hb⟩ := hrel
    by_cases hlt : j < n
    · obtain ⟨x, hx⟩ : ∃ x, l[j]? = some x := ⟨_, List.getElem?_eq_getElem (by rw [← h.out.len]; exact hlt)⟩
      obtain ⟨a, ea, _, a0, a1, a2, a3, a4⟩ := (h.out.at_.keep hb.out).wrd hx
      obtain ⟨b, eb, _, b0, b1, b2, b3, b4⟩ := (k.out.at_.keep hb.out).wrd hx
      subst ea eb
      have i1 : (0 : Int) ≤ (j : Int) := by omega
      have i2 : (j : Int) < (n : Int) := by omega
      have hq := wrd_eq x
      replace hx := Lib.hid hx
      go_wp2_with fail
      go_quiet (fail)
      have hb := Lib.hid (bl_drewN hb.out nq)
      clear a0 a1 a2 a3 a4 b0 b1 b2 b3 b4
      go_wp2_with fail
      go_roundw
      case rel => exact ⟨j + 1, by omega, by go_num, hb⟩
      case measure => simp [intOf]; omega
    · have e : j = n := by omega
      subst e
      go_wp2_with fail
      go_ret
      exact ⟨rfl, hb.out⟩

/-- The units of letters. -/
def unitsL (s : ByteArray) : List Int := s.data.toList.map fun b => (b.toNat : Int)
theorem infoU6 : (Try.prog.info? 26).map (fun i => (i.zero, i.size, i.bytes)) = some (some (.int .u16 0), 1, 2) := by kernel_rfl
theorem u16E_one6 (z : Int) : ∀ u ∈ u16E z, u.oneCell' = true := by intro u hu; simp [u16E] at hu; subst hu; rfl
theorem unitsL_take {s : ByteArray} {k : Nat} (h : k < s.size) : (unitsL s).take (k + 1) = (unitsL s).take k ++ [(s[k].toNat : Int)] := by
  have hl : (unitsL s).length = s.size := by simp [unitsL]
  rw [List.take_succ_eq_append_getElem (by omega)]
  congr 1
  simp [unitsL]
  rfl

set_option maxRecDepth 100000 in
set_option maxHeartbeats 1600000 in
theorem units_h (s : ByteArray) (w : World) (hs : s.size ≤ 1000) :
    Calls Try.prog 35 #[.string s] w fun e w' => MadeSl u16E w (unitsL s) e w' := by
  have hst : Hid (GRow u16E 26 1 w (.slice none 0 0) ((unitsL s).take 0) w) := Lib.hid (GRow.start w)
  have hl : (unitsL s).length = s.size := by simp [unitsL]
  replace hl := Lib.hid hl
  go_enter Try.func35, Try.ntmps35
  go_wp2_with fail
  go_loopw [3, 4] (fun v i wr => ∃ k : Nat, k ≤ s.size ∧ i = .int .i64 k ∧ Hid (GRow u16E 26 1 w v ((unitsL s).take k) wr)) (fun _ i _ => s.size - (intOf i).toNat)
  case atStart => exact ⟨0, Nat.zero_le _, rfl, hst⟩
  case round =>
    clear hst
    obtain ⟨k, hk, rfl, hR⟩ := hrel
    by_cases hlt : k < s.size
    · have hnx := Lib.hid (unitsL_take hlt)
      have hln : ((unitsL s).take k).length ≤ 1000 := by have : ((unitsL s).take k).length ≤ k := List.length_take_le _ _; omega
      have hx0 : (0 : Int) ≤ (s[k].toNat : Int) := by omega
      have hx1 : (s[k].toNat : Int) ≤ 255 := by have := s[k].toNat_lt; omega
      generalize (unitsL s).take k = out at *
      have hlit := Lib.hid (Holds.lit (f := u16E) wr [(s[k].toNat : Int)] 26)
      have hA3 := hR.out.alloc (.cells ([(s[k].toNat : Int)].flatMap u16E).toArray 26)
      have hown := Lib.hid hA3.row
      have hbase := Lib.hid (hR.out.base (.cells ([(s[k].toNat : Int)].flatMap u16E).toArray 26))
      replace hA3 := Lib.hid hA3
      go_wp2_with (at_builtin; refine append_row rfl (.tmp 11) (.tmp 16) 36 26 rfl _ 2 Try.underlying36 infoU6 rfl (by decide) (by decide) u16E_len u16E_one6 w.heap.size u3 out.length out rfl hown.out _ _ 1 1 [_] rfl (fun h => by cases h) (Lib.hid rfl) hlit.out (by omega) hbase.out ?_; intro v' w' h3 h4 h5; have hR2 := Lib.hid (hA3.out.step h3 rfl h4); clear h3 h4 h5; rw [← hnx.out] at hR2)
      go_roundw
      case rel => exact ⟨k + 1, by omega, by go_num, hR2⟩
      case measure => simp [intOf]; omega
    · have e : k = s.size := by omega
      rw [List.take_of_length_le (by rw [hl.out]; omega)] at hR
      obtain ⟨E, c', rfl, hS, hN⟩ := hR.out.fin u16E_len (by omega)
      have hM : Hid (MadeSl u16E w (unitsL s) (.returned (.slice E (unitsL s).length c')) wr) := Lib.hid ⟨E, c', rfl, hS, hR.out.hb, hN⟩
      clear hS hN hR e
      generalize (unitsL s).length = q at *
      go_wp2_with fail
      go_ret
      exact hM.out

/-- The advances of the chapter's examples. -/
def tabL : List Int := (((List.replicate 99 0).set 97 10).set 98 20).set 32 5
set_option maxRecDepth 100000 in
set_option maxHeartbeats 1600000 in
theorem table_h (w : World) :
    Calls Try.prog 36 #[] w fun e w' => MadeSl intE w tabL e w' := by
  have hmk := fun W => make_row (P := Try.prog) 23 2 (.int .i64 0) 1 8 Try.underlying23 infoI6 (by decide) 99 99 99 99 rfl rfl (Nat.le_refl _) (by omega) W
  rw [Nat.mul_one] at hmk
  have hst : IBox (w.alloc (madeObj (.int .i64 0) 99 2)) w.heap.size (List.replicate 99 0) := IBox.made w 99 0 _
  have hb0 : Below w.heap.size w (w.alloc (madeObj (.int .i64 0) 99 2)) := (Below.refl _ _).alloc (Nat.le_refl _) _
  obtain ⟨N, hN⟩ : ∃ N : Nat, N = 99 := ⟨_, rfl⟩
  obtain ⟨L, hL⟩ : ∃ L : List Int, L = List.replicate 99 0 := ⟨_, rfl⟩
  rw [← hL] at hst
  have hLl : L.length = 99 := by rw [hL]; simp
  go_enter Try.func36, Try.ntmps36
  go_upto_region 2 with fail
  generalize hW : World.alloc w _ = V at *
  obtain ⟨g, hg⟩ : ∃ g, g = w.heap.size := ⟨_, rfl⟩
  rw [← hg] at hst ⊢
  have h1 := hst.set_ (i := 97) (by omega) 10
  have h2 := h1.set_ (i := 98) (by simp; omega) 20
  have h3 := h2.set_ (i := 32) (by simp; omega) 5
  have c1 : ∃ z, V.cell? ⟨g, 97, none⟩ = some (.int .i64 z) := ⟨_, hst.at_ (List.getElem?_eq_getElem (by omega))⟩
  have c2 : ∃ z, V.cell? ⟨g, 98, none⟩ = some (.int .i64 z) := ⟨_, hst.at_ (List.getElem?_eq_getElem (by omega))⟩
  have c3 : ∃ z, V.cell? ⟨g, 32, none⟩ = some (.int .i64 z) := ⟨_, hst.at_ (List.getElem?_eq_getElem (by omega))⟩
  obtain ⟨z1, c1⟩ := c1
  obtain ⟨z2, c2⟩ := c2
  obtain ⟨z3, c3⟩ := c3
  have f1 := hst.free_ (i := 97) (by omega)
  have f2 := hst.free_ (i := 98) (by omega)
  have f3 := hst.free_ (i := 32) (by omega)
  have hM : Hid (MadeSl intE w tabL (.returned (.slice (some ⟨g, 0, none⟩) 99 99)) (((V.setCell ⟨g, 97, none⟩ (.int .i64 10)).setCell ⟨g, 98, none⟩ (.int .i64 20)).setCell ⟨g, 32, none⟩ (.int .i64 5))) := by
    refine Lib.hid ⟨some ⟨g, 0, none⟩, 99, by rw [show tabL.length = 99 by simp [tabL]], ⟨by simp [tabL], by simp [tabL], (fun h => by cases h), fun _ => ⟨_, rfl, h3.lt_, fun j u hu => ?_⟩⟩, ((hb0.setCell (p := ⟨g, 97, none⟩) (by rw [hg]; exact Nat.le_refl _) _).setCell (p := ⟨g, 98, none⟩) (by rw [hg]; exact Nat.le_refl _) _).setCell (p := ⟨g, 32, none⟩) (by rw [hg]; exact Nat.le_refl _) _, (fun a h => by cases h; rw [hg]; exact Nat.le_refl _)⟩
    rw [intE_flat] at hu
    have hq := h3.cell j u (by rw [hL]; exact hu)
    unfold Addr.add
    by_cases h0 : j = 0
    · subst h0; simpa using hq
    · simpa [h0] using hq
  clear h1 h2 h3 hst hb0 hW hmk hL hLl hg hN
  go_wp2_with fail
  go_ret
  exact hM.out

theorem vast6_h (U : Option Addr) (n c : Nat) (B : Option Addr) (m d : Nat) (w : World) :
    Calls Try.prog 18 #[.slice U n c, .slice B m d] w fun e w' => e = .returned (.bool (decide (3000 < n ∨ 8192 < m))) ∧ w = w' := by
  by_cases h1 : 3000 < n
  · have hd : decide (3000 < n ∨ 8192 < m) = true := decide_eq_true (.inl h1)
    have h1' : (3000 : Int) < (n : Int) := by omega
    rw [hd]
    clear hd
    go_enter Try.func18, Try.ntmps18
    go_wp2_with fail
    go_ret
    exact ⟨rfl, rfl⟩
  · have hd : decide (3000 < n ∨ 8192 < m) = decide (8192 < m) := by simp [h1]
    have h1' : ¬ (3000 : Int) < (n : Int) := by omega
    rw [hd]
    clear hd
    by_cases h2 : 8192 < m
    · have h2' : (8192 : Int) < (m : Int) := by omega
      rw [decide_eq_true h2]
      go_enter Try.func18, Try.ntmps18
      go_wp2_with fail
      go_ret
      exact ⟨rfl, rfl⟩
    · have h2' : ¬ (8192 : Int) < (m : Int) := by omega
      rw [decide_eq_false h2]
      go_enter Try.func18, Try.ntmps18
      go_wp2_with fail
      go_ret
      exact ⟨rfl, rfl⟩
end Go.Proofs.Ytnmfcbmdopmglaa
