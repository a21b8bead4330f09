/-
  Contract of package table at one type of values: Put.
-/
import Derived.Test.YthkngenmdogpjaaTabLeftP
namespace Go.Proofs.Ythkngenmdogpjaa
open Go.RowKit

set_option maxRecDepth 100000 in
set_option maxHeartbeats 1600000 in
theorem putP_no (tb cb vb : Nat) (l : List (Option Pair)) (i : Int) (x : Pair) (w : World) (h : Hid (Tab pairE pair0 w tb cb vb l)) (hn : slot l i = none ∨ ∃ y, slot l i = some (some y)) :
    Calls Try.prog 11 #[.pointer (some ⟨tb, 0, none⟩), .int .i64 i, .agg #[.int .i64 x.a, .string x.b]] w fun e w' => e = .returned (.int .i64 (putE (slot l i))) ∧ Below w.heap.size w w' := by
  have hT : Hid (Tab pairE pair0 (w.alloc (.cells #[.int .i64 x.a, .string x.b] 30)) tb cb vb l) := Lib.hid (h.out.below ((Below.refl _ _).alloc (Nat.le_refl _) _))
  have hB : Hid (Below w.heap.size w (w.alloc (.cells #[.int .i64 x.a, .string x.b] 30))) := Lib.hid ((Below.refl _ _).alloc (Nat.le_refl _) _)
  have kh := hasP_h tb cb vb l i _ hT
  rcases slot_cases l i with ⟨e, hi⟩ | ⟨k, o, rfl, hk, e, hl⟩
  · rw [e] at kh ⊢
    simp only [Option.isSome_none, putE] at kh ⊢
    clear h hT e hi hn
    go_enter Try.func11, Try.ntmps11
    go_wp2_with (go_at_call 28; refine kh.mono ?_; rintro e w' ⟨rfl, rfl⟩)
    go_ret
    exact ⟨rfl, hB.out⟩
  · rw [e] at hn
    obtain ⟨y, rfl⟩ : ∃ y, o = some y := by
      rcases hn with h | ⟨y, h⟩
      · cases h
      · exact ⟨y, Option.some.inj h⟩
    obtain ⟨hc, hf⟩ := hT.out.at_ hk
    have h0 := hT.out.head.cell 0 _ rfl
    have i1 : (0 : Int) ≤ (k : Int) := by omega
    have i2 : (k : Int) < (l.length : Int) := by omega
    rw [e] at kh ⊢
    generalize l.length = n at *
    have c0 := hc 0 _ rfl
    have c1 := hc 1 _ rfl
    have f0 := hf 0 (by omega)
    simp only [Nat.add_zero] at c0 f0
    simp only [Option.isSome_some, putE] at kh ⊢
    have kl := cas32_miss cb (k * 3) 2 0 1 _ c0 f0 (by omega)
    have kw := group_wait cb (k * 3 + 1) _ c1
    clear h hT e hk hc hf hl hn
    go_enter Try.func11, Try.ntmps11
    go_wp2_with (first | (go_at_call 28; refine kh.mono ?_; rintro e w' ⟨rfl, rfl⟩) | (go_at_call 29; refine kl.mono ?_; rintro e w' ⟨rfl, rfl⟩) | (go_at_call 30; refine kw.mono ?_; rintro e w' ⟨rfl, rfl⟩))
    go_ret
    exact ⟨rfl, hB.out⟩

set_option maxRecDepth 100000 in
set_option maxHeartbeats 1600000 in
theorem putP_yes (tb cb vb : Nat) (l : List (Option Pair)) (k : Nat) (x : Pair) (w : World) (h : Hid (Tab pairE pair0 w tb cb vb l)) (hk : Hid (l[k]? = some none)) (hl : Hid (k < l.length)) :
    Calls Try.prog 11 #[.pointer (some ⟨tb, 0, none⟩), .int .i64 k, .agg #[.int .i64 x.a, .string x.b]] w fun e w' => e = .returned (.int .i64 0) ∧ Tab pairE pair0 w' tb cb vb (l.set k (some x)) ∧ But [cb, vb] w w' := by
  have hT : Hid (Tab pairE pair0 (w.alloc (.cells #[.int .i64 x.a, .string x.b] 30)) tb cb vb l) := Lib.hid (h.out.below ((Below.refl _ _).alloc (Nat.le_refl _) _))
  have hX := Box.new w [.int .i64 x.a, .string x.b] 30
  have l1 := Lib.hid h.out.cells.lt
  have l2 := Lib.hid h.out.vals.lt
  have kh := hasP_h tb cb vb l k _ hT
  rw [slot_nat, hk.out] at kh
  simp only [Option.isSome_some] at kh
  have ah := hT.out.head
  have ac := hT.out.cells
  have av := hT.out.vals
  have tc := hT.out.tc
  have tv := hT.out.tv
  have cv := hT.out.cv
  have hx : (l.map stOf)[k]? = some 1 := by simp [hk.out, stOf]
  have hl2 : Hid (k < (l.map stOf).length) := Lib.hid (by simpa using hl.out)
  rw [chunk_is hx] at ac
  rw [chunk_is hk.out] at av
  clear hx
  have c0 := ac.chunk_cell cellS_len hl2.out 0 rfl
  have f0 := ac.chunk_free cellS_len hl2.out rfl 0 (by omega)
  have bc := Lib.hid (ac.chunk_set cellS_len hl2.out rfl 0 (by omega) (.int .u32 1))
  simp only [Nat.add_zero] at c0 f0 bc
  have kl := cas32_hit cb (k * 3) 0 1 _ c0 f0
  have h0 := ah.cell 0 _ rfl
  have h1 := ah.cell 1 _ rfl
  have i1 : (0 : Int) ≤ (k : Int) := by omega
  have i2 : (k : Int) < (l.length : Int) := by have := hl.out; omega
  have bh := Lib.hid (ah.off (q := cb) (Ne.symm tc) (k * 3) (.int .u32 1))
  have bv := Lib.hid (av.off (q := cb) cv (k * 3) (.int .u32 1))
  clear c0 f0 ah ac av
  obtain ⟨n, hn⟩ : ∃ n, Hid (l.length = n) := ⟨_, Lib.hid rfl⟩
  rw [hn.out] at h0 h1 i2
  go_enter Try.func11, Try.ntmps11
  go_wp2_with (first | (go_at_call 28; refine kh.mono ?_; rintro e w' ⟨rfl, rfl⟩) | (go_at_call 29; refine kl.mono ?_; rintro e w' ⟨rfl, rfl⟩))
  generalize hV : World.setCell (World.alloc w _) _ _ = V at *
  obtain ⟨hX, hB⟩ : Box V w.heap.size [.int .i64 x.a, .string x.b] ∧ But [cb, vb] w V := by
    subst hV
    have := l1.out
    exact ⟨hX.off (q := cb) (by omega) _ _, ((But.refl _ _).alloc _).set cb _ (.inl (by simp)) _⟩
  clear hV kh kl hT h0 h1
  have h0 := bh.out.cell 0 _ rfl
  have h1 := bh.out.cell 1 _ rfl
  rw [hn.out] at h0 h1
  have v0 := bv.out.chunk_cell (valE_len pairE_len) hl.out 0 rfl
  have g0 := bv.out.chunk_free (valE_len pairE_len) hl.out rfl 0 (by omega)
  simp only [Nat.add_zero] at v0 g0
  have v1 := bv.out.chunk_cell (valE_len pairE_len) hl.out 1 rfl
  have g1 := bv.out.chunk_free (valE_len pairE_len) hl.out rfl 1 (by omega)
  have q0 := hX.cell 0 _ rfl
  have q1 := hX.cell 1 _ rfl
  go_region
  go_wp2_with fail
  generalize hU : World.drew (World.setCell (World.setCell V _ _) _ _) = U
  obtain ⟨bh, bc, bv, hB⟩ : Box U tb [.slice (some ⟨cb, 0, none⟩) l.length l.length, .slice (some ⟨vb, 0, none⟩) l.length l.length] ∧ Box U cb (chunk cellS (l.map stOf) k [.int .u32 1, .int .u64 4294967296, .int .u32 0]) ∧ Box U vb (chunk (valE pairE pair0) l k (pairE x)) ∧ But [cb, vb] w U := by
    subst hU
    refine ⟨((bh.out.off (q := vb) (Ne.symm tv) _ _).off (q := vb) (Ne.symm tv) _ _).drew, ((bc.out.off (q := vb) (Ne.symm cv) _ _).off (q := vb) (Ne.symm cv) _ _).drew, Box.drew ?_, ((hB.set vb _ (.inl (by simp)) _).set vb _ (.inl (by simp)) _).drew⟩
    exact (bv.out.chunk_set (valE_len pairE_len) hl.out rfl 0 (by omega) _).chunk_set (valE_len pairE_len) hl.out rfl 1 (by omega) _
  clear hU
  have c0 := bc.chunk_cell cellS_len hl2.out 0 rfl
  have f0 := bc.chunk_free cellS_len hl2.out rfl 0 (by omega)
  have bc := bc.chunk_set cellS_len hl2.out rfl 0 (by omega) (.int .u32 2)
  simp only [Nat.add_zero] at c0 f0 bc
  have c1 := bc.chunk_cell cellS_len hl2.out 1 rfl
  have f1 := bc.chunk_free cellS_len hl2.out rfl 1 (by omega)
  have bc := bc.chunk_set cellS_len hl2.out rfl 1 (by omega) (.int .u64 0)
  have ks := store32_any cb (k * 3) _ 2 U c0 f0
  have kd := group_done cb (k * 3 + 1) _ c1 f1
  have bh := (bh.off (q := cb) (Ne.symm tc) (k * 3) (.int .u32 2)).off (q := cb) (Ne.symm tc) (k * 3 + 1) (.int .u64 0)
  have bv := (bv.off (q := cb) cv (k * 3) (.int .u32 2)).off (q := cb) cv (k * 3 + 1) (.int .u64 0)
  have hB := (hB.set cb (k * 3) (.inl (by simp)) (.int .u32 2)).set cb (k * 3 + 1) (.inl (by simp)) (.int .u64 0)
  have hfin := Lib.hid (And.intro (h.out.put hk.out x bc bv bh) hB)
  clear bc bv bh hB c0 f0 c1 f1
  go_wp2_with (first | (go_at_call 31; refine ks.mono ?_; rintro e w' ⟨rfl, rfl⟩) | (go_at_call 32; refine kd.mono ?_; rintro e w' ⟨rfl, rfl⟩))
  go_ret
  exact ⟨rfl, hfin.out.1, hfin.out.2⟩
end Go.Proofs.Ythkngenmdogpjaa
