/-
  Contracts of the document's table: Put, Left, All; and of the statements' same.
-/
import Derived.Test.YthkngenmdogpjaaRef3
namespace Go.Proofs.Ythkngenmdogpjaa
open Go.RowKit

/-- The list behind a Put. -/
def putL {α : Type} (l : List (Option α)) (i : Int) (x : α) : List (Option α) :=
  match slot l i with
  | some none => l.set i.toNat (some x)
  | _ => l
theorem putL_len {α : Type} (l : List (Option α)) (i : Int) (x : α) : (putL l i x).length = l.length := by
  unfold putL
  split <;> simp

set_option maxRecDepth 100000 in
set_option maxHeartbeats 1600000 in
theorem rPut_h (rb rc : Nat) (l : List (Option Pair)) (i : Int) (x : Pair) (w : World) (h : Hid (Ref w rb rc l)) :
    Calls Try.prog 12 #[.pointer (some ⟨rb, 0, none⟩), .int .i64 i, .agg #[.int .i64 x.a, .string x.b]] w fun e w' => e = .returned (.int .i64 (putE (slot l i))) ∧ Ref w' rb rc (putL l i x) ∧ But [rc] w w' := by
  have hT : Hid (Ref (w.alloc (.cells #[.int .i64 x.a, .string x.b] 30)) rb rc l) := Lib.hid (h.out.below ((Below.refl _ _).alloc (Nat.le_refl _) _))
  have hB : Hid (But [rc] w (w.alloc (.cells #[.int .i64 x.a, .string x.b] 30))) := Lib.hid ((But.refl _ _).alloc _)
  have h0 := hT.out.head.cell 0 _ rfl
  rcases slot_cases l i with ⟨e, hi⟩ | ⟨k, o, rfl, hk, e, hl⟩
  · have hp : Hid (Ref (w.alloc (.cells #[.int .i64 x.a, .string x.b] 30)) rb rc (putL l i x)) := Lib.hid (by unfold putL; rw [e]; exact hT.out)
    rw [e]
    simp only [putE]
    generalize l.length = n at *
    clear h hT e
    rcases hi with hi | hi
    · go_enter Try.func12, Try.ntmps12
      go_wp2_with fail
      go_ret
      exact ⟨rfl, hp.out, hB.out⟩
    · have hi2 : ¬ i < 0 := by omega
      have hi3 : ¬ i < n := by omega
      go_enter Try.func12, Try.ntmps12
      go_wp2_with fail
      go_ret
      exact ⟨rfl, hp.out, hB.out⟩
  · have hc := hT.out.chunk hk
    have i1 : (0 : Int) ≤ (k : Int) := by omega
    have i2 : (k : Int) < (l.length : Int) := by omega
    cases o with
    | some y =>
      have hp : Hid (Ref (w.alloc (.cells #[.int .i64 x.a, .string x.b] 30)) rb rc (putL l k x)) := Lib.hid (by unfold putL; rw [e]; exact hT.out)
      rw [e]
      have c0 := hc.chunk_cell refE_len hl 0 rfl
      simp only [Nat.add_zero] at c0
      simp only [putE]
      clear h hT e hk hc hl
      generalize l.length = n at *
      go_enter Try.func12, Try.ntmps12
      go_wp2_with fail
      go_ret
      exact ⟨rfl, hp.out, hB.out⟩
    | none =>
      have hpl : Hid (putL l k x = l.set k (some x)) := Lib.hid (by unfold putL; rw [e]; rfl)
      rw [e, hpl.out]
      have c0 := hc.chunk_cell refE_len hl 0 rfl
      have f0 := hc.chunk_free refE_len hl rfl 0 (by omega)
      have c1 := hc.chunk_cell refE_len hl 1 rfl
      have f1 := hc.chunk_free refE_len hl rfl 1 (by omega)
      have c2 := hc.chunk_cell refE_len hl 2 rfl
      have f2 := hc.chunk_free refE_len hl rfl 2 (by omega)
      simp only [Nat.add_zero] at c0 f0
      simp only [putE]
      have hb := cell_build x.a x.b
      have hX := Box.new w [.int .i64 x.a, .string x.b] 30
      have hc := Lib.hid hc
      have bc := hT.out.bc
      have hh := Lib.hid hT.out.head
      have hl := Lib.hid hl
      have rl := Lib.hid h.out.cells.lt
      clear h hT e
      obtain ⟨n, hn⟩ : ∃ n, Hid (l.length = n) := ⟨_, Lib.hid rfl⟩
      rw [hn.out] at h0 i2
      go_enter Try.func12, Try.ntmps12
      go_wp2_with fail
      generalize hV : World.alloc w _ = V at *
      clear hV
      have q0 := hX.cell 0 _ rfl
      have q1 := hX.cell 1 _ rfl
      go_region
      go_wp2_with fail
      generalize hU : World.drew (World.setCell (World.setCell (World.setCell V _ _) _ _) _ _) = U
      obtain ⟨bh, bv, hB⟩ : Box U rb [.slice (some ⟨rc, 0, none⟩) l.length l.length] ∧ Box U rc (chunk refE l k (refE (some x))) ∧ But [rc] w U := by
        subst hU
        have s1 := hc.out.chunk_set refE_len hl.out rfl 0 (by omega) (.bool true)
        simp only [Nat.add_zero] at s1
        exact ⟨(((hh.out.off (q := rc) (Ne.symm bc) _ _).off (q := rc) (Ne.symm bc) _ _).off (q := rc) (Ne.symm bc) _ _).drew, (((s1.chunk_set refE_len hl.out rfl 1 (by omega) _).chunk_set refE_len hl.out rfl 2 (by omega) _)).drew,
          (((hB.out.set rc _ (.inl (by simp)) _).set rc _ (.inl (by simp)) _).set rc _ (.inl (by simp)) _).drew⟩
      go_ret
      refine ⟨rfl, ⟨by simpa using bh, ?_, bc⟩, hB⟩
      rw [← chunk_done (some x) hl.out]
      exact bv

set_option maxRecDepth 100000 in
set_option maxHeartbeats 1600000 in
theorem rLeft_h (rb rc : Nat) (l : List (Option Pair)) (w : World) (h : Hid (Ref w rb rc l)) (hn : l.length ≤ 65536) :
    Calls Try.prog 16 #[.pointer (some ⟨rb, 0, none⟩)] w fun e w' => e = .returned (.int .i64 (leftN l)) ∧ w = w' := by
  have h0 := h.out.head.cell 0 _ rfl
  obtain ⟨n, hl⟩ : ∃ n, Hid (l.length = n) := ⟨_, Lib.hid rfl⟩
  rw [hl.out] at h0
  have hnn : n ≤ 65536 := by rw [← hl.out]; exact hn
  clear hn
  go_enter Try.func16, Try.ntmps16
  go_wp2_with fail
  go_loopw [3, 4] (fun c i wr => ∃ k : Nat, k ≤ n ∧ i = .int .i64 k ∧ c = .int .i64 (leftN (l.take k)) ∧ w = wr) (fun _ i _ => n - (intOf i).toNat)
  case atStart => exact ⟨0, Nat.zero_le _, rfl, by simp [leftN], rfl⟩
  case round =>
    obtain ⟨k, hk, rfl, rfl, rfl⟩ := hrel
    by_cases hlt : k < n
    · obtain ⟨o, ho⟩ : ∃ o, l[k]? = some o := ⟨_, List.getElem?_eq_getElem (by rw [hl.out]; exact hlt)⟩
      have hb := Lib.hid (leftN_le (l.take k))
      have hs := Lib.hid (leftN_succ ho)
      have i1 : (0 : Int) ≤ (k : Int) := by omega
      have i2 : (k : Int) < (n : Int) := by omega
      have hc := h.out.chunk ho
      have hkl : k < l.length := by rw [hl.out]; exact hlt
      cases o with
      | none =>
        have c0 := hc.chunk_cell refE_len hkl 0 rfl
        simp only [Nat.add_zero] at c0
        clear hc hkl
        go_wp2_with fail
        go_roundw
        case rel =>
          refine ⟨k + 1, by omega, by go_num, ?_, trivial⟩
          have h1 := hs.out
          have h2 := hb.out
          simp only [List.length_take, leftOf] at h1 h2
          rw [h1]
          exact congrArg (Value.int .i64) (by rw [wrap64_small (by omega) (by omega)]; omega)
        case measure => simp [intOf]; omega
      | some x =>
        have c0 := hc.chunk_cell refE_len hkl 0 rfl
        simp only [Nat.add_zero] at c0
        clear hc hkl
        go_wp2_with fail
        go_roundw
        case rel =>
          refine ⟨k + 1, by omega, by go_num, ?_, trivial⟩
          rw [hs.out]
          simp [leftOf]
        case measure => simp [intOf]; omega
    · have e : k = n := by omega
      subst e
      have ht : Hid (l.take k = l) := Lib.hid (List.take_of_length_le (by rw [hl.out]; exact Nat.le_refl _))
      rw [ht.out]
      clear ht
      have i2 : ¬ (k : Int) < (k : Int) := by omega
      go_wp2_with fail
      go_ret
      exact ⟨rfl, rfl⟩
end Go.Proofs.Ythkngenmdogpjaa
