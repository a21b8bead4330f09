/-
  Contract of package table at one type of values: Put.
-/
import Derived.Test.YthkngenmdogpjaaTabLeftI
namespace Go.Proofs.Ythkngenmdogpjaa
open Go.RowKit

set_option maxRecDepth 100000 in
set_option maxHeartbeats 1600000 in
theorem putI_no (tb cb vb : Nat) (l : List (Option Int)) (i : Int) (x : Int) (w : World) (h : Hid (Tab intE int0 w tb cb vb l)) (hn : slot l i = none ∨ ∃ y, slot l i = some (some y)) :
    Calls Try.prog 24 #[.pointer (some ⟨tb, 0, none⟩), .int .i64 i, .int .i64 x] w fun e w' => e = .returned (.int .i64 (putE (slot l i))) ∧ Below w.heap.size w w' := by
  have hT := h
  have hB : Hid (Below w.heap.size w w) := Lib.hid (Below.refl _ _)
  have kh := hasI_h tb cb vb l i _ hT
  rcases slot_cases l i with ⟨e, hi⟩ | ⟨k, o, rfl, hk, e, hl⟩
  · rw [e] at kh ⊢
    simp only [Option.isSome_none, putE] at kh ⊢
    clear h hT e hi hn
    go_enter Try.func24, Try.ntmps24
    go_wp2_with (go_at_call 35; refine kh.mono ?_; rintro e w' ⟨rfl, rfl⟩)
    go_ret
    exact ⟨rfl, hB.out⟩
  · rw [e] at hn
    obtain ⟨y, rfl⟩ : ∃ y, o = some y := by
      rcases hn with h | ⟨y, h⟩
      · cases h
      · exact ⟨y, Option.some.inj h⟩
    obtain ⟨hc, hf⟩ := hT.out.at_ hk
    have h0 := hT.out.head.cell 0 _ rfl
    have i1 : (0 : Int) ≤ (k : Int) := by omega
    have i2 : (k : Int) < (l.length : Int) := by omega
    rw [e] at kh ⊢
    generalize l.length = n at *
    have c0 := hc 0 _ rfl
    have c1 := hc 1 _ rfl
    have f0 := hf 0 (by omega)
    simp only [Nat.add_zero] at c0 f0
    simp only [Option.isSome_some, putE] at kh ⊢
    have kl := cas32_miss cb (k * 3) 2 0 1 _ c0 f0 (by omega)
    have kw := group_wait cb (k * 3 + 1) _ c1
    clear h hT e hk hc hf hl hn
    go_enter Try.func24, Try.ntmps24
    go_wp2_with (first | (go_at_call 35; refine kh.mono ?_; rintro e w' ⟨rfl, rfl⟩) | (go_at_call 29; refine kl.mono ?_; rintro e w' ⟨rfl, rfl⟩) | (go_at_call 30; refine kw.mono ?_; rintro e w' ⟨rfl, rfl⟩))
    go_ret
    exact ⟨rfl, hB.out⟩

set_option maxRecDepth 100000 in
set_option maxHeartbeats 1600000 in
theorem putI_yes (tb cb vb : Nat) (l : List (Option Int)) (k : Nat) (x : Int) (w : World) (h : Hid (Tab intE int0 w tb cb vb l)) (hk : Hid (l[k]? = some none)) (hl : Hid (k < l.length)) :
    Calls Try.prog 24 #[.pointer (some ⟨tb, 0, none⟩), .int .i64 k, .int .i64 x] w fun e w' => e = .returned (.int .i64 0) ∧ Tab intE int0 w' tb cb vb (l.set k (some x)) ∧ But [cb, vb] w w' := by
  have hT := h
  have kh := hasI_h tb cb vb l k _ hT
  rw [slot_nat, hk.out] at kh
  simp only [Option.isSome_some] at kh
  have ah := hT.out.head
  have ac := hT.out.cells
  have av := hT.out.vals
  have tc := hT.out.tc
  have tv := hT.out.tv
  have cv := hT.out.cv
  have hx : (l.map stOf)[k]? = some 1 := by simp [hk.out, stOf]
  have hl2 : Hid (k < (l.map stOf).length) := Lib.hid (by simpa using hl.out)
  rw [chunk_is hx] at ac
  rw [chunk_is hk.out] at av
  clear hx
  have c0 := ac.chunk_cell cellS_len hl2.out 0 rfl
  have f0 := ac.chunk_free cellS_len hl2.out rfl 0 (by omega)
  have bc := Lib.hid (ac.chunk_set cellS_len hl2.out rfl 0 (by omega) (.int .u32 1))
  simp only [Nat.add_zero] at c0 f0 bc
  have kl := cas32_hit cb (k * 3) 0 1 _ c0 f0
  have h0 := ah.cell 0 _ rfl
  have h1 := ah.cell 1 _ rfl
  have i1 : (0 : Int) ≤ (k : Int) := by omega
  have i2 : (k : Int) < (l.length : Int) := by have := hl.out; omega
  have bh := Lib.hid (ah.off (q := cb) (Ne.symm tc) (k * 3) (.int .u32 1))
  have bv := Lib.hid (av.off (q := cb) cv (k * 3) (.int .u32 1))
  clear c0 f0 ah ac av
  obtain ⟨n, hn⟩ : ∃ n, Hid (l.length = n) := ⟨_, Lib.hid rfl⟩
  rw [hn.out] at h0 h1 i2
  have v0 := bv.out.chunk_cell (valE_len intE_len) hl.out 0 rfl
  have g0 := bv.out.chunk_free (valE_len intE_len) hl.out rfl 0 (by omega)
  simp only [Nat.mul_one, Nat.add_zero] at v0 g0
  go_enter Try.func24, Try.ntmps24
  go_wp2_with (first | (go_at_call 35; refine kh.mono ?_; rintro e w' ⟨rfl, rfl⟩) | (go_at_call 29; refine kl.mono ?_; rintro e w' ⟨rfl, rfl⟩))
  generalize hU : World.setCell (World.setCell w _ _) _ _ = U
  obtain ⟨bh, bc, bv, hB⟩ : Box U tb [.slice (some ⟨cb, 0, none⟩) l.length l.length, .slice (some ⟨vb, 0, none⟩) l.length l.length] ∧ Box U cb (chunk cellS (l.map stOf) k [.int .u32 1, .int .u64 4294967296, .int .u32 0]) ∧ Box U vb (chunk (valE intE int0) l k (intE x)) ∧ But [cb, vb] w U := by
    subst hU
    refine ⟨bh.out.off (q := vb) (Ne.symm tv) _ _, bc.out.off (q := vb) (Ne.symm cv) _ _, ?_, ((But.refl _ _).set cb _ (.inl (by simp)) _).set vb _ (.inl (by simp)) _⟩
    have hs := bv.out.chunk_set (valE_len intE_len) hl.out rfl 0 (by omega) (.int .i64 x)
    simp only [Nat.mul_one, Nat.add_zero] at hs
    exact hs
  clear hU
  have c0 := bc.chunk_cell cellS_len hl2.out 0 rfl
  have f0 := bc.chunk_free cellS_len hl2.out rfl 0 (by omega)
  have bc := bc.chunk_set cellS_len hl2.out rfl 0 (by omega) (.int .u32 2)
  simp only [Nat.add_zero] at c0 f0 bc
  have c1 := bc.chunk_cell cellS_len hl2.out 1 rfl
  have f1 := bc.chunk_free cellS_len hl2.out rfl 1 (by omega)
  have bc := bc.chunk_set cellS_len hl2.out rfl 1 (by omega) (.int .u64 0)
  have ks := store32_any cb (k * 3) _ 2 U c0 f0
  have kd := group_done cb (k * 3 + 1) _ c1 f1
  have bh := (bh.off (q := cb) (Ne.symm tc) (k * 3) (.int .u32 2)).off (q := cb) (Ne.symm tc) (k * 3 + 1) (.int .u64 0)
  have bv := (bv.off (q := cb) cv (k * 3) (.int .u32 2)).off (q := cb) cv (k * 3 + 1) (.int .u64 0)
  have hB := (hB.set cb (k * 3) (.inl (by simp)) (.int .u32 2)).set cb (k * 3 + 1) (.inl (by simp)) (.int .u64 0)
  have hfin := Lib.hid (And.intro (h.out.put hk.out x bc bv bh) hB)
  clear bc bv bh hB c0 f0 c1 f1
  go_wp2_with (first | (go_at_call 31; refine ks.mono ?_; rintro e w' ⟨rfl, rfl⟩) | (go_at_call 32; refine kd.mono ?_; rintro e w' ⟨rfl, rfl⟩))
  go_ret
  exact ⟨rfl, hfin.out.1, hfin.out.2⟩
end Go.Proofs.Ythkngenmdogpjaa
