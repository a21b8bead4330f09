/-
  Contract of the statements' anchor of stage 6: it answers true.
-/
import Derived.Test.YtnmfcbmdopmglaaSmall6
import Derived.Test.YtnmfcbmdopmglaaWords2
import Derived.Test.YtnmfcbmdopmglaaExtent
namespace Go.Proofs.Ytnmfcbmdopmglaa
open Go.RowKit
set_option linter.unusedVariables false

def s1 : ByteArray := ⟨#[97, 98, 32, 32, 97]⟩
def s2' : ByteArray := ⟨#[32, 97, 32, 10, 32, 98, 10]⟩
def s3' : ByteArray := ⟨#[97, 98, 32, 97]⟩
def n1 : List Int := [97, 98, 32, 32, 97]
def n2 : List Int := [32, 97, 32, 10, 32, 98, 10]
def n3 : List Int := [97, 98, 32, 97]
theorem whl1 : Whl n1 [⟨0, 2, 0⟩, ⟨4, 5, 0⟩] := by
  refine ⟨5, 0, ⟨⟨Gap.nil (by decide), by decide, ⟨by decide, fun k h1 h2 => ?_⟩, rfl⟩, ⟨⟨by decide, by decide, fun k h1 h2 => ?_, rfl⟩, by decide, ⟨by decide, fun k h1 h2 => ?_⟩, rfl⟩, rfl⟩, Gap.nil (by decide)⟩
  · have h1 : 0 ≤ k := h1
    have h2 : k < 2 := h2
    obtain rfl | rfl : k = 0 ∨ k = 1 := by omega
    · rfl
    · rfl
  · have h1 : 2 ≤ k := h1
    have h2 : k < 4 := h2
    obtain rfl | rfl : k = 2 ∨ k = 3 := by omega
    · rfl
    · rfl
  · have h1 : 4 ≤ k := h1
    have h2 : k < 5 := h2
    obtain rfl : k = 4 := by omega
    rfl
theorem whl2 : Whl n2 [⟨1, 2, 0⟩, ⟨5, 6, 1⟩] := by
  refine ⟨6, 1, ⟨⟨⟨by decide, by decide, fun k h1 h2 => ?_, rfl⟩, by decide, ⟨by decide, fun k h1 h2 => ?_⟩, rfl⟩, ⟨⟨by decide, by decide, fun k h1 h2 => ?_, rfl⟩, by decide, ⟨by decide, fun k h1 h2 => ?_⟩, rfl⟩, rfl⟩, ⟨by decide, by decide, fun k h1 h2 => ?_, rfl⟩⟩
  · have h1 : 0 ≤ k := h1
    have h2 : k < 1 := h2
    obtain rfl : k = 0 := by omega
    rfl
  · have h1 : 1 ≤ k := h1
    have h2 : k < 2 := h2
    obtain rfl : k = 1 := by omega
    rfl
  · have h1 : 2 ≤ k := h1
    have h2 : k < 5 := h2
    obtain rfl | rfl | rfl : k = 2 ∨ k = 3 ∨ k = 4 := by omega
    · rfl
    · rfl
    · rfl
  · have h1 : 5 ≤ k := h1
    have h2 : k < 6 := h2
    obtain rfl : k = 5 := by omega
    rfl
  · have h1 : 6 ≤ k := h1
    have h2 : k < 7 := h2
    obtain rfl : k = 6 := by omega
    rfl
def l1 : List Wrd := [⟨0, 2, 30, 0, 0⟩, ⟨4, 5, 10, 5, 0⟩]
def l2 : List Wrd := [⟨1, 2, 10, 0, 0⟩, ⟨5, 6, 20, 0, 1⟩]
theorem wl1 : wrds tabL n1 [⟨0, 2, 0⟩, ⟨4, 5, 0⟩] = l1 ∧ fars tabL n1 [⟨0, 2, 0⟩, ⟨4, 5, 0⟩] = false := by decide +kernel
theorem wl2 : wrds tabL n2 [⟨1, 2, 0⟩, ⟨5, 6, 1⟩] = l2 ∧ fars tabL n2 [⟨1, 2, 0⟩, ⟨5, 6, 1⟩] = false := by decide +kernel
theorem wl3 : cutI (wideS tabL n3) = 45 ∧ farI (wideS tabL n3) = false := by decide +kernel
theorem rwhl1 : RWhl l1 [⟨0, 2⟩] := ⟨⟨rfl, by decide, by decide, fun i h1 h2 => by
    have h2 : i < 2 := h2
    obtain rfl : i = 1 := by omega
    rfl, rfl⟩, rfl⟩
theorem el1 : lst l1 = 30 ∧ grt l1 [⟨0, 2⟩] = 45 ∧ farE l1 [⟨0, 2⟩] = false := by decide +kernel
theorem u_n1 : ∀ x ∈ n1, U16 x := by intro x hx; simp [n1] at hx; unfold U16; omega
theorem u_n2 : ∀ x ∈ n2, U16 x := by intro x hx; simp [n2] at hx; unfold U16; omega
theorem u_n3 : ∀ x ∈ n3, U16 x := by intro x hx; simp [n3] at hx; unfold U16; omega
theorem t_ok : ∀ z ∈ tabL, I64 z := by
  intro z hz
  have key : ∀ z ∈ tabL, (0 ≤ z ∧ z ≤ 20) := by decide +kernel
  have := key z hz
  unfold I64; omega
theorem l1_ok : ∀ x ∈ l1, WrdOk x := by
  intro x hx
  simp [l1] at hx
  rcases hx with rfl | rfl <;> simp [WrdOk, I64]
theorem m1' : unitsL ⟨#[97, 98, 32, 32, 97]⟩ = n1 := by decide +kernel
theorem m2' : unitsL ⟨#[32, 97, 32, 10, 32, 98, 10]⟩ = n2 := by decide +kernel
theorem m3' : unitsL ⟨#[97, 98, 32, 97]⟩ = n3 := by decide +kernel

/-- What a function answers that makes a slice, at a list that is named. -/
theorem MadeSl.len {α : Type} {f : α → List Value} {w w' : World} {l : List α} {e : Ending} (h : MadeSl f w l e w') {n : Nat} (hn : l.length = n) : ∃ (E : Option Addr) (c : Nat), e = .returned (.slice E n c) ∧ Sl f w' E n c l ∧ Below w.heap.size w w' := by
  obtain ⟨E, c, h1, h2, h3, _⟩ := h
  subst hn
  exact ⟨E, c, h1, h2, h3⟩
theorem MadeWrds.len {w w' : World} {l : List Wrd} {b : Bool} {e : Ending} (h : MadeWrds w l b e w') {n : Nat} (hn : l.length = n) : ∃ (E : Option Addr) (c : Nat), e = .returned (.tuple #[.slice E n c, .bool b]) ∧ Sl wrdE w' E n c l ∧ Below w.heap.size w w' := by
  obtain ⟨E, c, h1, h2, h3, _⟩ := h
  subst hn
  exact ⟨E, c, h1, h2, h3⟩

set_option maxRecDepth 100000 in
set_option maxHeartbeats 1600000 in
theorem works6_h (w : World) :
    Calls Try.prog 19 #[] w fun e w' => e = .returned (.bool true) ∧ Below w.heap.size w w' := by
  have ht : tabL.length = 99 := by simp [tabL]
  have ht := Lib.hid ht
  go_enter Try.func19, Try.ntmps19
  go_wp2_with fail
  refine (units_h _ _ (by decide)).mono ?_; rintro e w1 hm
  rw [m1'] at hm
  obtain ⟨U, uc, rfl, hU, hb1⟩ := hm.len (n := 5) rfl
  replace hb1 := Lib.hid hb1
  clear hm
  go_wp2_with fail
  refine (table_h _).mono ?_; rintro e w2 hm
  obtain ⟨T, tc, rfl, hT, hb2⟩ := hm.len ht.out
  have hU2 := Lib.hid (hU.below hb2)
  replace hT := Lib.hid hT
  replace hb2 := Lib.hid (hb1.out.trans (hb2.mono hb1.out.size))
  clear hm hU hb1
  go_wp2_with fail
  refine (words_h U 5 uc n1 T 99 tc tabL w2 hU2 (Lib.hid u_n1) hT (Lib.hid t_ok) (by decide) _ (Lib.hid whl1)).mono ?_; rintro e w3 hm
  rw [wl1.1, wl1.2] at hm
  obtain ⟨W1, wc1, rfl, hW1, hb3⟩ := hm.len (n := 2) rfl
  replace hW1 := Lib.hid hW1
  replace hb3 := Lib.hid (hb2.out.trans (hb3.mono hb2.out.size))
  clear hm hU2 hT hb2
  go_wp2_with fail
  refine (units_h _ _ (by decide)).mono ?_; rintro e w4 hm
  rw [m2'] at hm
  obtain ⟨U, uc, rfl, hU, hb1⟩ := hm.len (n := 7) rfl
  have hW2 := Lib.hid (hW1.out.below hb1)
  replace hb1 := Lib.hid (hb3.out.trans (hb1.mono hb3.out.size))
  clear hm hW1 hb3
  go_wp2_with fail
  refine (table_h _).mono ?_; rintro e w5 hm
  obtain ⟨T, tc, rfl, hT, hb2⟩ := hm.len ht.out
  have hU2 := Lib.hid (hU.below hb2)
  have hW3 := Lib.hid (hW2.out.below hb2)
  replace hT := Lib.hid hT
  replace hb2 := Lib.hid (hb1.out.trans (hb2.mono hb1.out.size))
  clear hm hU hb1 hW2
  go_wp2_with fail
  refine (words_h U 7 uc n2 T 99 tc tabL w5 hU2 (Lib.hid u_n2) hT (Lib.hid t_ok) (by decide) _ (Lib.hid whl2)).mono ?_; rintro e w6 hm
  rw [wl2.1, wl2.2] at hm
  obtain ⟨V1, vc1, rfl, hV1, hb3⟩ := hm.len (n := 2) rfl
  have hW4 := Lib.hid (hW3.out.below hb3)
  replace hV1 := Lib.hid hV1
  replace hb3 := Lib.hid (hb2.out.trans (hb3.mono hb2.out.size))
  clear hm hU2 hT hb2 hW3
  go_wp2_with fail
  refine (extent_h W1 2 wc1 l1 w6 hW4 (Lib.hid l1_ok) (by decide) _ (Lib.hid rwhl1)).mono ?_; rintro e w7 ⟨rfl, hb4⟩
  rw [el1.1, el1.2.1, el1.2.2]
  have hW5 := Lib.hid (hW4.out.below hb4)
  have hV2 := Lib.hid (hV1.out.below hb4)
  replace hb4 := Lib.hid (hb3.out.trans (hb4.mono hb3.out.size))
  clear hW4 hV1 hb3
  go_wp2_with fail
  refine (units_h _ _ (by decide)).mono ?_; rintro e w8 hm
  rw [m3'] at hm
  obtain ⟨U, uc, rfl, hU, hb1⟩ := hm.len (n := 4) rfl
  have hW6 := Lib.hid (hW5.out.below hb1)
  have hV3 := Lib.hid (hV2.out.below hb1)
  replace hb1 := Lib.hid (hb4.out.trans (hb1.mono hb4.out.size))
  clear hm hW5 hV2 hb4
  go_wp2_with fail
  refine (table_h _).mono ?_; rintro e w9 hm
  obtain ⟨T, tc, rfl, hT, hb2⟩ := hm.len ht.out
  have hU2 := Lib.hid (hU.below hb2)
  have hW7 := Lib.hid (hW6.out.below hb2)
  have hV4 := Lib.hid (hV3.out.below hb2)
  replace hT := Lib.hid hT
  replace hb2 := Lib.hid (hb1.out.trans (hb2.mono hb1.out.size))
  clear hm hU hb1 hW6 hV3
  go_wp2_with fail
  refine (wide_h U 4 uc n3 T 99 tc tabL w9 hU2 (Lib.hid u_n3) hT (Lib.hid t_ok) (by decide)).mono ?_; rintro e w10 ⟨rfl, hb3⟩
  rw [wl3.1, wl3.2]
  have hW8 := hW7.out.below hb3
  have hV5 := hV4.out.below hb3
  replace hb3 := Lib.hid (hb2.out.trans (hb3.mono hb2.out.size))
  clear hU2 hT hb2 hW7 hV4
  obtain ⟨a, rfl, -, ha⟩ := hW8.at_ (by decide)
  obtain ⟨b, rfl, -, hb⟩ := hV5.at_ (by decide)
  have a2 := ha 2 _ rfl
  have a5 := ha 5 _ rfl
  have a8 := ha 8 _ rfl
  have b0 := hb 0 _ rfl
  have b8 := hb 8 _ rfl
  have b9 := hb 9 _ rfl
  simp only [Addr.add, Nat.reduceEqDiff, if_false, if_true, Nat.add_zero] at a2 a5 a8 b0 b8 b9
  trace_state
  go_wp2_with fail
  go_ret
  exact ⟨rfl, hb3.out⟩
end Go.Proofs.Ytnmfcbmdopmglaa
