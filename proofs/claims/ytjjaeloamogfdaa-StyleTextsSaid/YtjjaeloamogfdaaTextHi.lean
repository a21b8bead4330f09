/-
  The walk of the statement on texts, where the number says one of the ways from 7 to 15.
-/
import Derived.Test.YtjjaeloamogfdaaText4
import Derived.Deep.CutBlock
import Derived.Deep.DeepCutAuto
import Derived.BigGuard
namespace Go.Proofs.Ytjjaeloamogfdaa
open Go.ChangeShapes Go.WideShapes Go.ChangeAt Go.RowKit Go.Proofs.Ytjjaeloamogfdaa
set_option linter.unusedVariables false

set_option maxRecDepth 100000 in
set_option maxHeartbeats 3200000 in
theorem text_hi (W : World) (A : Option Addr) (n c : Nat) (l : List Int) (hm : c ≤ maxLen) (hS : Sl u16E W A n c l) (m u : Nat) (hm2 : m ≤ 255) (hu : u ≤ 255) (hj : Hid ((u : Int) % 16 = 7 ∨ (u : Int) % 16 = 8 ∨ (u : Int) % 16 = 9 ∨ (u : Int) % 16 = 10 ∨ (u : Int) % 16 = 11 ∨ (u : Int) % 16 = 12 ∨ (u : Int) % 16 = 13 ∨ (u : Int) % 16 = 14 ∨ (u : Int) % 16 = 15)) :
    Calls Try.prog 7 #[.slice A n c, .int .u8 m, .int .u8 u] W fun e w' => e = .returned (.bool true) ∧ Below W.heap.size W w' := by
  clear hm
  by_cases hn : n ≤ 65536
  case neg =>
    have hn' : (65536 : Int) < (n : Int) := by omega
    go_enter Try.func7, Try.ntmps7
    go_wp2_with (go_at_call 9; refine (works4_any _).mono ?_; rintro e w2 ⟨rfl, hb2⟩)
    go_ret
    exact ⟨rfl, hb2⟩
  have hn' : ¬ (65536 : Int) < (n : Int) := by omega
  replace hS := Lib.hid hS
  have own0 := Lib.hid (World.ownsRow_lit (base := W.heap.size) (e := 36) (size := 1) W #[] 0 (Nat.le_refl _) (Nat.zero_le _) (by rfl))
  have b0 := Lib.hid ((Below.refl W.heap.size W).alloc (Nat.le_refl _) (.cells #[] 36))
  have hbase : Hid (W.heap.size ≤ (W.alloc (.cells #[] 36)).heap.size) := Lib.hid (by simp)
  go_enter Try.func7, Try.ntmps7
  go_upto_region 4 with (first | (refine wpList_store_new rfl _ _ rfl _ (styE (textS A1 n c1)).toArray rfl rfl rfl rfl (styE_one _) ?_) | (at_builtin; refine append_row (f := u16E) (l := []) rfl (.tmp 12) (.tmp 13) 26 36 rfl _ 2 Try.underlying26 infoU16 rfl (by decide) (by decide) u16E_len u16E_one W.heap.size _ 0 rfl own0.out W.heap.size A n c l rfl hS.out.nil (Lib.hid hS.out.len) (hS.out.at_.keep b0.out) (by omega) hbase.out ?_; intro v1 w1 h3 h4 h5; have hb1 := Lib.hid (b0.out.grown h4 (by simp) (fun k hk => (own0.out.lt k hk).1)); obtain ⟨A1, c1, rfl⟩ := own_open h3; clear h3 h4 h5))
  generalize hW : World.alloc w1 _ = V
  have hT : TB W w1.heap.size (textS A1 n c1) V := by
    subst hW
    exact ⟨Box.new w1 (styE (textS A1 n c1)) _, hb1.out.size, hb1.out.alloc hb1.out.size _⟩
  clear hW hb1 own0 b0 hbase hS
  generalize w1.heap.size = g at *
  generalize Value.agg _ = V15
  obtain ⟨L, hL⟩ : ∃ L, (styE (textS A1 n c1)).toArray = L := ⟨_, rfl⟩
  replace hL := Lib.hid hL
  have hR := fun w => right_L hL w
  rw [text_ok A1 n c1 hn] at hR
  have l0 := hT.ats
  replace hT := Lib.hid hT
  go_wp2_with (refine wpList_load_sty (by rfl) _ rfl g rfl _ L hL l0 ?_)
  refine (hR _).mono ?_; rintro e w2 ⟨rfl, hb1⟩
  have hT2 := Lib.hid (hT.out.below hb1)
  clear hb1 hT l0 hR hL
  go_upto_if 21 with fail
  go_cut [7] (fun p wx => p = .pointer (some ⟨g, 0, none⟩) ∧ ∃ A n c, Hid (TB W g (textS A n c) wx))
  case first =>
    by_cases h16 : (m : Int) % 16 = 0
    · have h16' : ((m : Int) % 16 == 0) = true := by simpa using h16
      clear h16
      obtain ⟨N, hN⟩ : ∃ N : Nat, N = 65537 := ⟨_, rfl⟩
      have hmk : ∀ w : World, (Instr.makeSlice 26 (.int .i64 65537) (.int .i64 65537)).run Try.prog w = .ok (.slice (some ⟨w.heap.size, 0, none⟩) N N) (w.alloc (madeObj (.int .u16 0) N 36)) :=
        fun w => by
          have h := make_row (P := Try.prog) 26 36 (.int .u16 0) 1 2 Try.underlying26 infoU16 (by decide) N N 65537 65537 (by omega) (by omega) (Nat.le_refl _) (by omega) w
          rwa [Nat.mul_one] at h
      have hN1 : (1 : Int) ≤ (N : Int) := by omega
      have hNa : ¬ N = 1 := by omega
      have hNb : ¬ N - 1 = 0 := by omega
      have hNc : ¬ N ≤ 1 := by omega
      replace hN := Lib.hid hN
      have p42 := hT2.out.box.cell 42 _ rfl
      have q42 := hT2.out.box.free 42 (by rw [styE_len]; omega)
      have hlt := hT2.out.box.lt
      obtain ⟨L3, hL3⟩ : ∃ L, (styE (textS (some ⟨w2.heap.size, 0, none⟩) N N)).toArray = L := ⟨_, rfl⟩
      replace hL3 := Lib.hid hL3
      have hR3 := fun w => right_L hL3 w
      rw [text_no _ N N (by have := hN.out; omega)] at hR3
      have hT3 : TB W g (textS (some ⟨w2.heap.size, 0, none⟩) N N) ((w2.setCell ⟨g, 42, none⟩ (.slice (some ⟨w2.heap.size, 0, none⟩) N N)).alloc (madeObj (.int .u16 0) N 36)) :=
        (hT2.out.set 42 (.slice (some ⟨w2.heap.size, 0, none⟩) N N) (textS (some ⟨w2.heap.size, 0, none⟩) N N) rfl (by omega)).below ((Below.refl _ _).alloc (Nat.le_refl _) _)
      replace hT3 := Lib.hid hT3
      have l3 := hT3.out.ats
      go_wp2_with (refine wpList_load_sty (by rfl) _ rfl g rfl _ L3 hL3 l3 ?_)
      generalize hW : World.alloc (World.setCell w2 _ _) _ = V3 at *
      clear hW l3
      refine (hR3 _).mono ?_; rintro e w3 ⟨rfl, hb1⟩
      have hT4 := Lib.hid (hT3.out.below hb1)
      clear hb1 hT3 hR3 p42 q42 hlt hmk
      generalize w2.heap.size = q at *
      have p42 : w3.cell? ⟨g, 42, none⟩ = some (.slice (some ⟨q, 0, none⟩) N N) := hT4.out.box.cell 42 _ rfl
      have q42 := hT4.out.box.free 42 (by rw [styE_len]; omega)
      obtain ⟨L4, hL4⟩ : ∃ L, (styE (textS (some ⟨q, 1, none⟩) (N - 1) (N - 1))).toArray = L := ⟨_, rfl⟩
      replace hL4 := Lib.hid hL4
      have hR4 := fun w => right_L hL4 w
      rw [text_ok _ (N - 1) (N - 1) (by have := hN.out; omega)] at hR4
      have hT5 := Lib.hid (hT4.out.set 42 (.slice (some ⟨q, 1, none⟩) (N - 1) (N - 1)) (textS (some ⟨q, 1, none⟩) (N - 1) (N - 1)) rfl (by omega))
      have l5 := hT5.out.ats
      go_wp2_with (refine wpList_load_sty (by rfl) _ rfl g rfl _ L4 hL4 l5 ?_)
      generalize hW : World.setCell w3 _ _ = V5 at *
      clear hW l5
      refine (hR4 _).mono ?_; rintro e w5 ⟨rfl, hb1⟩
      have hT6 := Lib.hid (hT5.out.below hb1)
      clear hb1 hT5 hT4 hR4 p42 q42
      go_wp2_with fail
      go_meet
      exact ⟨rfl, _, _, _, hT6⟩
    · have h16' : ((m : Int) % 16 == 0) = false := by simpa using h16
      clear h16
      go_wp2_with fail
      go_meet
      exact ⟨rfl, _, _, _, hT2⟩
  case rest =>
    obtain ⟨rfl, A2, n2, c2, hT3⟩ := hcut
    go_upto_block 0 with fail
    go_cut [7, 34] (fun p _ wx => p = .pointer (some ⟨g, 0, none⟩) ∧ ∃ s, Hid (TB W g s wx) ∧ Hid (rightB s = false))
    case first =>
      have hdq : (u : Int) / 16 % 4 = 0 ∨ (u : Int) / 16 % 4 = 1 ∨ (u : Int) / 16 % 4 = 2 ∨ (u : Int) / 16 % 4 = 3 := by omega
      replace hdq := Lib.hid hdq
      obtain ⟨k, hk, hkl⟩ : ∃ k : Nat, (u : Int) / 16 % 11 = (k : Int) ∧ k < 11 := ⟨u / 16 % 11, by omega, by omega⟩
      replace hk := Lib.hid hk
      have hlt := hT3.out.box.lt
      rcases hj.out with h | h | h | h | h | h | h | h | h
      all_goals
        rw [h]
        clear h
      · have p := hT3.out.box.cell 36 _ rfl
        have q := hT3.out.box.free 36 (by rw [styE_len]; omega)
        go_wp2_with fail
        go_meet
        exact ⟨rfl, _, Lib.hid (hT3.out.set 36 (.int .u8 1) { textS A2 n2 c2 with items := 1 } rfl (by omega)), Lib.hid (by simp [rightB, textB, textS, style0, rule])⟩
      · have p := hT3.out.box.cell 37 _ rfl
        have q := hT3.out.box.free 37 (by rw [styE_len]; omega)
        go_wp2_with fail
        go_meet
        exact ⟨rfl, _, Lib.hid (hT3.out.set 37 (.int .i64 (-1)) { textS A2 n2 c2 with order := -1 } rfl (by omega)), Lib.hid (by simp [rightB, textB, textS, style0, rule])⟩
      · have p := hT3.out.box.cell 38 _ rfl
        have q := hT3.out.box.free 38 (by rw [styE_len]; omega)
        go_wp2_with fail
        go_meet
        exact ⟨rfl, _, Lib.hid (hT3.out.set 38 (.int .i64 1) { textS A2 n2 c2 with grow := 1 } rfl (by omega)), Lib.hid (by simp [rightB, textB, textS, style0, rule])⟩
      · have p := hT3.out.box.cell 39 _ rfl
        have q := hT3.out.box.free 39 (by rw [styE_len]; omega)
        go_wp2_with fail
        go_meet
        exact ⟨rfl, _, Lib.hid (hT3.out.set 39 (.int .i64 1) { textS A2 n2 c2 with shrink := 1 } rfl (by omega)), Lib.hid (by simp [rightB, textB, textS, style0, rule])⟩
      · rcases hdq.out with h | h | h | h
        · have p := hT3.out.box.cell 24 _ rfl
          have q := hT3.out.box.free 24 (by rw [styE_len]; omega)
          go_wp2_with fail
          go_meet
          exact ⟨rfl, _, Lib.hid (hT3.out.set 24 (.int .i64 1) { textS A2 n2 c2 with b0 := 1 } rfl (by omega)), Lib.hid (by simp [rightB, textB, textS, style0, rule, Style.borders, Style.paddings])⟩
        · have p := hT3.out.box.cell 25 _ rfl
          have q := hT3.out.box.free 25 (by rw [styE_len]; omega)
          go_wp2_with fail
          go_meet
          exact ⟨rfl, _, Lib.hid (hT3.out.set 25 (.int .i64 1) { textS A2 n2 c2 with b1 := 1 } rfl (by omega)), Lib.hid (by simp [rightB, textB, textS, style0, rule, Style.borders, Style.paddings])⟩
        · have p := hT3.out.box.cell 26 _ rfl
          have q := hT3.out.box.free 26 (by rw [styE_len]; omega)
          go_wp2_with fail
          go_meet
          exact ⟨rfl, _, Lib.hid (hT3.out.set 26 (.int .i64 1) { textS A2 n2 c2 with b2 := 1 } rfl (by omega)), Lib.hid (by simp [rightB, textB, textS, style0, rule, Style.borders, Style.paddings])⟩
        · have p := hT3.out.box.cell 27 _ rfl
          have q := hT3.out.box.free 27 (by rw [styE_len]; omega)
          go_wp2_with fail
          go_meet
          exact ⟨rfl, _, Lib.hid (hT3.out.set 27 (.int .i64 1) { textS A2 n2 c2 with b3 := 1 } rfl (by omega)), Lib.hid (by simp [rightB, textB, textS, style0, rule, Style.borders, Style.paddings])⟩
      · rcases hdq.out with h | h | h | h
        · have p := hT3.out.box.cell 28 _ rfl
          have q := hT3.out.box.free 28 (by rw [styE_len]; omega)
          go_wp2_with fail
          go_meet
          exact ⟨rfl, _, Lib.hid (hT3.out.set 28 (.int .i64 1) { textS A2 n2 c2 with p0 := 1 } rfl (by omega)), Lib.hid (by simp [rightB, textB, textS, style0, rule, Style.borders, Style.paddings])⟩
        · have p := hT3.out.box.cell 29 _ rfl
          have q := hT3.out.box.free 29 (by rw [styE_len]; omega)
          go_wp2_with fail
          go_meet
          exact ⟨rfl, _, Lib.hid (hT3.out.set 29 (.int .i64 1) { textS A2 n2 c2 with p1 := 1 } rfl (by omega)), Lib.hid (by simp [rightB, textB, textS, style0, rule, Style.borders, Style.paddings])⟩
        · have p := hT3.out.box.cell 30 _ rfl
          have q := hT3.out.box.free 30 (by rw [styE_len]; omega)
          go_wp2_with fail
          go_meet
          exact ⟨rfl, _, Lib.hid (hT3.out.set 30 (.int .i64 1) { textS A2 n2 c2 with p2 := 1 } rfl (by omega)), Lib.hid (by simp [rightB, textB, textS, style0, rule, Style.borders, Style.paddings])⟩
        · have p := hT3.out.box.cell 31 _ rfl
          have q := hT3.out.box.free 31 (by rw [styE_len]; omega)
          go_wp2_with fail
          go_meet
          exact ⟨rfl, _, Lib.hid (hT3.out.set 31 (.int .i64 1) { textS A2 n2 c2 with p3 := 1 } rfl (by omega)), Lib.hid (by simp [rightB, textB, textS, style0, rule, Style.borders, Style.paddings])⟩
      all_goals
        go_wp2_with fail
        refine (lens_any g _).mono ?_; rintro e w5 ⟨b1, rfl, hH, hb1⟩
        have hT4 := hT3.out.below hb1
        have c0 := lens_at hH hkl
        obtain ⟨d0, d1, f0, f1⟩ := hT4.at_ hkl
        have hT5 := Lib.hid (hT4.put hkl ⟨1, 0⟩)
        have hq5 := Lib.hid (right_text (textS A2 n2 c2) hkl ⟨1, 0⟩ (by decide) rfl)
        have hi1 : (0 : Int) ≤ (k : Int) := by omega
        have hi2 : (k : Int) < 11 := by omega
        clear hH hb1 hT4
        have hk2 := hk.out
        go_wp2_with fail
        go_meet
        exact ⟨rfl, _, hT5, hq5⟩
    case rest =>
      obtain ⟨rfl, s5, hT5, hq5⟩ := hcut
      obtain ⟨L5, hL5⟩ : ∃ L, (styE s5).toArray = L := ⟨_, rfl⟩
      replace hL5 := Lib.hid hL5
      have hR5 := fun w => right_L hL5 w
      rw [hq5.out] at hR5
      have l5 := hT5.out.ats
      go_wp2_with (refine wpList_load_sty (by rfl) _ rfl g rfl s5 L5 hL5 l5 ?_)
      refine (hR5 _).mono ?_; rintro e w6 ⟨rfl, hb1⟩
      have hT6 := Lib.hid (hT5.out.below hb1)
      clear hb1 hT5 hR5 l5
      go_wp2_with (go_at_call 9; refine (works4_any _).mono ?_; rintro e w12 ⟨rfl, hb1⟩)
      go_ret
      exact ⟨rfl, (hT6.out.below hb1).hb⟩
end Go.Proofs.Ytjjaeloamogfdaa
