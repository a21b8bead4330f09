/-
  Contract of the statements' row: a tree of nodes of parents and kinds.
-/
import Derived.Test.YtcgblbbadbkdgaaGrow5
import Derived.StillTailTactics
import Derived.Deep.RegionLaw
namespace Go.Proofs.Ytcgblbbadbkdgaa
open Go.RowKit
set_option linter.unusedVariables false

def rowN (ps ks : List Int) : List NodeV := List.zipWith plainN ps ks
theorem rowN_succ {ps ks : List Int} {i : Nat} {p k : Int} (hp : ps[i]? = some p) (hk : ks[i]? = some k) : rowN (ps.take (i + 1)) (ks.take (i + 1)) = rowN (ps.take i) (ks.take i) ++ [plainN p k] := by
  unfold rowN
  rw [List.take_add_one, List.take_add_one, hp, hk]
  have h1 := (List.getElem?_eq_some_iff.mp hp).1
  have h2 := (List.getElem?_eq_some_iff.mp hk).1
  rw [List.zipWith_append (by simp; omega)]
  rfl
theorem Holds.u8 {w : World} {B : Nat} {A : Option Addr} {l : List Int} (h : Holds u8E w B A l) {i : Nat} {x : Int} (hx : l[i]? = some x) : ∃ a, A = some a ∧ a.block < B ∧ w.cell? (a.add i) = some (.int .u8 x) := by
  obtain ⟨a, e, hl, hc⟩ := h.get (f := u8E) (size := 1) (fun _ => rfl) hx
  exact ⟨a, e, hl, by have := hc 0 _ rfl; simpa using this⟩

set_option maxRecDepth 100000 in
set_option maxHeartbeats 3200000 in
theorem row_h (P K : Addr) (n : Nat) (ps ks : List Int) (w : World) (hP : Hid (Holds intE w w.heap.size (some P) ps)) (hK : Hid (Holds u8E w w.heap.size (some K) ks)) (hlp : Hid (ps.length = n)) (hlk : Hid (ks.length = n)) (hn : n ≤ 1000) :
    Calls Try.prog 38 #[.slice (some P) n n, .slice (some K) n n] w fun e w' => ∃ A c, e = .returned (.agg #[.slice A n c, .slice none 0 0, .int .i64 0]) ∧ Sl nodeE w' A n c (rowN ps ks) ∧ Below w.heap.size w w' := by
  go_enter Try.func38, Try.ntmps38
  go_upto_region 2 with fail
  obtain ⟨V1, hV1⟩ : ∃ V1, V1 = w.alloc (.cells #[.slice none 0 0, .slice none 0 0, .int .i64 0] 35) := ⟨_, rfl⟩
  have hb1 : Below w.heap.size w V1 := by rw [hV1]; exact (Below.refl _ _).alloc (Nat.le_refl _) _
  have hr1 : Box V1 w.heap.size [.slice none 0 0, .slice none 0 0, .int .i64 0] := by rw [hV1]; exact Box.new w _ _
  have hsz : V1.heap.size = w.heap.size + 1 := by rw [hV1]; simp
  have hG := GrowT.start V1 [.slice none 0 0, .int .i64 0] 35
  rw [← hV1, ← hsz]
  replace hP := Lib.hid (hP.out.keep hb1)
  replace hK := Lib.hid (hK.out.keep hb1)
  replace hr1 := Lib.hid hr1
  replace hb1 := Lib.hid hb1
  generalize hV2 : World.alloc V1 _ = V2
  replace hG : Hid (GrowT V1 V1.heap.size (.slice none 0 0) [.slice none 0 0, .int .i64 0] [] V2) := by rw [← hV2]; exact Lib.hid hG
  clear hV1 hV2
  obtain ⟨tb, htb⟩ : ∃ tb, Hid (tb = V1.heap.size) := ⟨_, Lib.hid rfl⟩
  obtain ⟨rb, hrb⟩ : ∃ rb, Hid (rb = w.heap.size) := ⟨_, Lib.hid rfl⟩
  rw [← hrb.out] at hr1 ⊢
  rw [← htb.out] at hG ⊢
  replace hsz := Lib.hid hsz
  have hwb : Hid (w.heap.size ≤ V1.heap.size) := Lib.hid (by have := hsz.out; omega)
  go_wp2_with fail
  go_loopw [6] (fun i wr => ∃ k : Nat, k ≤ n ∧ i = .int .i64 k ∧ ∃ v, Hid (GrowT V1 tb v [.slice none 0 0, .int .i64 0] (rowN (ps.take k) (ks.take k)) wr)) (fun i _ => n - (intOf i).toNat)
  case atStart => exact ⟨0, Nat.zero_le _, rfl, _, hG⟩
  case round =>
    clear hG
    obtain ⟨k, hk, rfl, v, hG⟩ := hrel
    obtain ⟨A0, c0, rfl, hS0, hN0⟩ := hG.out.sl
    have h0 := hG.out.head.cell 0 _ rfl
    have h1 := hG.out.head.cell 1 _ rfl
    have h2 := hG.out.head.cell 2 _ rfl
    have hlt0 := hG.out.head.lt
    have hlen : Hid ((rowN (ps.take k) (ks.take k)).length = k) := Lib.hid (by unfold rowN; have := hlp.out; have := hlk.out; simp; omega)
    by_cases hlt : k < n
    · obtain ⟨p, hp⟩ : ∃ p, ps[k]? = some p := ⟨_, List.getElem?_eq_getElem (by rw [hlp.out]; exact hlt)⟩
      obtain ⟨d, hd⟩ : ∃ d, ks[k]? = some d := ⟨_, List.getElem?_eq_getElem (by rw [hlk.out]; exact hlt)⟩
      obtain ⟨P', hP', hPl, cP⟩ := (hP.out.keep (hG.out.hb.mono hwb.out)).int hp
      obtain ⟨K', hK', hKl, cK⟩ := (hK.out.keep (hG.out.hb.mono hwb.out)).u8 hd
      obtain rfl : P = P' := Option.some.inj hP'
      obtain rfl : K = K' := Option.some.inj hK'
      have hnx := Lib.hid (rowN_succ hp hd)
      have i1 : (0 : Int) ≤ (k : Int) := by omega
      have i2 : (k : Int) < (n : Int) := by omega
      clear hp hd hP' hK' h1 h2
      obtain ⟨nk, hnk⟩ : ∃ nk, rowN (ps.take k) (ks.take k) = nk := ⟨_, rfl⟩
      rw [hnk] at hG hlen hnx h0
      clear hnk hS0 hN0
      replace hG := Lib.hid (hG.out.below (Below.refl _ _).drew)
      have hr := Lib.hid (hG.out.ready (plainN p d) _ rfl)
      have hnl : nk.length + 1 ≤ 100000000 := by have := hlen.out; omega
      clear hG
      go_upto_region 5 with fail
      go_region_law (refine step_append_row (f := nodeE) rfl (.tmp 14) (.tmp 25) 32 49 rfl _ 328 Try.underlying32 infoNode2 rfl (by decide) (by decide) nodeE_len nodeE_one V1.heap.size (.slice A0 nk.length c0) nk.length nk (by simp [Act.eval]) hr.out.1 _ (some ⟨wr.drew.heap.size, 0, none⟩) 1 1 [plainN p d] (by simp [Act.eval]) (fun h => by cases h) (Lib.hid rfl) hr.out.2.2.1 hnl hr.out.2.1 ?_; intro v' w' h3 h4 h5; obtain ⟨A2, c2, rfl, -, -⟩ := Sl.own h3 nodeE_len (by omega); obtain ⟨hG2, cq, fq, lq⟩ := hr.out.2.2.2 _ w' h3 h4 h5; replace hG2 := Lib.hid hG2; clear h3 h4 h5)
      all_goals
        go_wp2_with fail
        go_roundw
        case rel => exact ⟨k + 1, by omega, by go_num, _, by rw [hnx.out]; exact hG2⟩
        case measure => simp [intOf]; omega
    · have e : k = n := by omega
      have i2 : ¬ (k : Int) < (n : Int) := by omega
      have hcr : wr.cell? ⟨rb, 0, none⟩ = some (.slice none 0 0) ∧ wr.cell? ⟨rb, 1, none⟩ = some (.slice none 0 0) ∧ wr.cell? ⟨rb, 2, none⟩ = some (.int .i64 0) ∧ wr.frozen? ⟨rb, 0, none⟩ = false ∧ wr.frozen? ⟨rb, 1, none⟩ = false ∧ wr.frozen? ⟨rb, 2, none⟩ = false ∧ rb < wr.heap.size := by
        have hb := hr1.out.below hG.out.hb
        exact ⟨hb.cell 0 _ rfl, hb.cell 1 _ rfl, hb.cell 2 _ rfl, hb.free 0 (by simp), hb.free 1 (by simp), hb.free 2 (by simp), hb.lt⟩
      obtain ⟨r0, r1, r2, f0, f1, f2, rlt⟩ := hcr
      have ht : Hid (ps.take k = ps ∧ ks.take k = ks) := Lib.hid ⟨List.take_of_length_le (by rw [hlp.out]; omega), List.take_of_length_le (by rw [hlk.out]; omega)⟩
      rw [ht.out.1, ht.out.2] at hS0 hG hlen
      rw [ht.out.1, ht.out.2] at h0
      rw [hlen.out] at h0 hS0
      rw [e] at h0 hS0
      replace e := Lib.hid e
      have hbw := Lib.hid (hb1.out.trans (hG.out.hb.mono hwb.out))
      replace hS0 := Lib.hid hS0
      replace hN0 := Lib.hid hN0
      go_wp2_with fail
      have hb := hr1.out.below hG.out.hb
      have hb5 := ((hb.set 0 (.slice A0 n c0) (by simp)).set 1 (.slice none 0 0) (by simp)).set 2 (.int .i64 0) (by simp)
      have bu := (((But.refl [rb] wr).set rb 0 (.inl (by simp)) (.slice A0 n c0)).set rb 1 (.inl (by simp)) (.slice none 0 0)).set rb 2 (.inl (by simp)) (.int .i64 0)
      have hS5 := hS0.out.but bu (fun a ha => by have h1 := hN0.out a ha; have h2 := hsz.out; have h3 := hrb.out; simp; omega)
      have hw5 := (((hbw.out.setCell (p := ⟨rb, 0, none⟩) (Nat.le_of_eq hrb.out.symm) (.slice A0 n c0)).setCell (p := ⟨rb, 1, none⟩) (Nat.le_of_eq hrb.out.symm) (.slice none 0 0)).setCell (p := ⟨rb, 2, none⟩) (Nat.le_of_eq hrb.out.symm) (.int .i64 0))
      generalize World.setCell (World.setCell (World.setCell wr _ _) _ _) _ _ = W5 at *
      have q0 := hb5.cell 0 _ rfl
      have q1 := hb5.cell 1 _ rfl
      have q2 := hb5.cell 2 _ rfl
      exact bodyPost_ret (v := .agg #[.slice A0 n c0, .slice none 0 0, .int .i64 0]) (by simp [results, Try.results38, go_sem, q0, q1, q2]) rfl ⟨A0, c0, rfl, hS5, hw5⟩
end Go.Proofs.Ytcgblbbadbkdgaa
