/-
  Contract of the document's answer for lengths: the sum of two numbers of any size.
-/
import Derived.Test.YtnmfcbmdopmglaaShort
import Derived.Deep.RegionHeld3
namespace Go.Proofs.Ytnmfcbmdopmglaa
open Go.RowKit

theorem sgn_same (m : Bool) (l a b : List Bool) (h : Dg.val l = Dg.val a + Dg.val b) : sgn m l = sgn m a + sgn m b := by
  unfold sgn; rw [h]; cases m <;> simp <;> omega
theorem sgn_off (m k : Bool) (l a b : List Bool) (hm : m ≠ k) (hle : Dg.val b ≤ Dg.val a) (h : Dg.val l = Dg.val a - Dg.val b) : sgn m l = sgn m a + sgn k b := by
  unfold sgn; rw [h]; cases m <;> cases k <;> simp_all <;> omega

theorem BCell.put {w : World} {g q : Nat} {a b : Value} (h : BCell w g a b) (hq : g < q) (u v : Value) : BCell ((w.setCell ⟨q, 0, none⟩ u).setCell ⟨q, 1, none⟩ v) g a b :=
  (h.setOther _ (by show q ≠ g; omega) _).setOther _ (by show q ≠ g; omega) _
theorem s3 {W : World} {g h : Nat} {a b a' b' : Value} (b1 : BCell W g a b) (b2 : BCell W h a' b') : W.cell? ⟨g, 0, none⟩ = some a ∧ W.cell? ⟨g, 1, none⟩ = some b ∧ W.cell? ⟨h, 1, none⟩ = some b' := ⟨b1.c0, b1.c1, b2.c1⟩

theorem box_facts (w : World) (a1 b1 a2 b2 a3 b3 : Value) (W : World)
    (h : ((w.alloc (.cells #[a1, b1] 86)).alloc (.cells #[a2, b2] 86)).alloc (.cells #[a3, b3] 86) = W) :
    BCell W w.heap.size a1 b1 ∧ BCell W (w.heap.size + 1) a2 b2 ∧ BCell W (w.heap.size + 2) a3 b3 ∧ Below w.heap.size w W ∧ W.heap.size = w.heap.size + 3 := by
  subst h
  refine ⟨((BCell.new w a1 b1 _).alloc _).alloc _, ?_, ?_, (((Below.refl _ _).alloc (Nat.le_refl _) _).alloc (by simp) _).alloc (by simp; omega) _, by simp⟩
  · simpa using (BCell.new (w.alloc (.cells #[a1, b1] 86)) a2 b2 86).alloc (.cells #[a3, b3] 86)
  · simpa using BCell.new ((w.alloc (.cells #[a1, b1] 86)).alloc (.cells #[a2, b2] 86)) a3 b3 86

set_option maxRecDepth 100000 in
set_option maxHeartbeats 1600000 in
theorem add_same (m : Bool) (A C : Option Addr) (n k cA cC : Nat) (al bl : List Bool) (w : World) (hSA : Hid (SlB w A n cA al)) (hSC : Hid (SlB w C k cC bl)) (hl : n ≤ 50000) (hl2 : k ≤ 50000) :
    Calls Try.prog 58 #[.agg #[.bool m, .slice A n cA], .agg #[.bool m, .slice C k cC]] w fun e w' => MadeBig w (sgn m al + sgn m bl) (max n k + 1) e w' := by
  go_enter Try.func58, Try.ntmps58
  go_wp2_with fail
  generalize hW : World.alloc (World.alloc (World.alloc w _) _) _ = W
  obtain ⟨b1, b2, b3, hb, hs0⟩ := box_facts _ _ _ _ _ _ _ W hW
  clear hW
  have c1 := b1.c0
  have c2 := b1.c1
  have c3 := b2.c1
  have hSA1 := Lib.hid ((hSA.out.keep hb).drew)
  have hSC1 := Lib.hid ((hSC.out.keep hb).drew)
  have hbW := (Below.refl W.heap.size W).drew
  have hs := Lib.hid hs0
  clear hs0
  go_region_held3 (fun w' => w'.cell? ⟨w.heap.size, 0, none⟩ = some (.bool m) ∧ w'.cell? ⟨w.heap.size, 1, none⟩ = some (.slice A n cA) ∧ w'.cell? ⟨w.heap.size + 1, 1, none⟩ = some (.slice C k cC))
    (first | exact s3 b11 b21 | exact s3 b12 b22 | exact s3 (b12.put (by omega) _ _) (b22.put (by omega) _ _) | (go_keep; done))
    (first | (go_at_call 63; refine (plus_any A C n k cA cC al bl _ hSA1 hSC1 (by omega) (by omega)).mono ?_; rintro e w1 ⟨E, kk, c, l, rfl, hkk, hv, hS, hbw, hfr⟩; have b11 := (b1.drew).below hbw b1.lt; have b21 := (b2.drew).below hbw b2.lt; have b31 := (b3.drew).below hbw b3.lt; have hv := Lib.hid hv)
           | (go_at_call 62; refine (short_any m E kk c l _ (Lib.hid hS) (by omega)).mono ?_; rintro e w2 ⟨mi2, k2, l2, rfl, hk2, hv2, ht2, hS2, hbw2⟩; have b12 := b11.below hbw2 b11.lt; have b22 := b21.below hbw2 b21.lt; have b32 := b31.below hbw2 b31.lt; have hv2 := Lib.hid hv2; have d1 := b32.c0; have d2 := b32.c1; have d3 := b32.f0; have d4 := b32.f1))
  go_wp2_with fail
  have hfr3 : Fresh (w.heap.size + 3) E := hfr.mono (by show _ ≤ W.heap.size; rw [hs.out]; exact Nat.le_refl _)
  have hWb : Below w.heap.size w ((w2.setCell ⟨w.heap.size + 2, 0, none⟩ (.bool mi2)).setCell ⟨w.heap.size + 2, 1, none⟩ (.slice E k2 c)) :=
    (((((hb.drew).trans (hbw.mono (by have := hs.out; simp; omega))).trans (hbw2.mono (by have := hs.out; have := hbw.size; simp at this; omega))).setCell (by simp) _).setCell (by simp) _)
  refine bodyPost_ret (v := .agg #[.bool mi2, .slice E k2 c]) (by simp [results, Try.results58, go_sem, d1, d2]) rfl ⟨mi2, E, k2, c, l2, rfl, by omega, ?_, ht2, ?_, hWb, hfr3.mono (by omega)⟩
  · rw [hv2.out, sgn_same m l al bl hv.out]
  · exact (hS2.setOther _ (fun a ha => by have := hfr3 a ha; show _ ≠ w.heap.size + 2; omega) _).setOther _ (fun a ha => by have := hfr3 a ha; show _ ≠ w.heap.size + 2; omega) _
set_option maxRecDepth 100000 in
set_option maxHeartbeats 1600000 in
theorem add_less (m k0 : Bool) (A C : Option Addr) (n k cA cC : Nat) (al bl : List Bool) (hm : (m == k0) = false) (hlt : Hid (decide (Dg.val al < Dg.val bl) = true)) (w : World) (hSA : Hid (SlB w A n cA al)) (hSC : Hid (SlB w C k cC bl)) (hl : n ≤ 50000) (hl2 : k ≤ 50000) :
    Calls Try.prog 58 #[.agg #[.bool m, .slice A n cA], .agg #[.bool k0, .slice C k cC]] w fun e w' => MadeBig w (sgn m al + sgn k0 bl) (max n k + 1) e w' := by
  go_enter Try.func58, Try.ntmps58
  go_wp2_with fail
  generalize hW : World.alloc (World.alloc (World.alloc w _) _) _ = W
  obtain ⟨b1, b2, b3, hb, hs0⟩ := box_facts _ _ _ _ _ _ _ W hW
  clear hW
  have c1 := b2.c0
  have c2 := b2.c1
  have c3 := b1.c1
  have hSA0 := Lib.hid (hSA.out.keep hb)
  have hSC0 := Lib.hid (hSC.out.keep hb)
  have cl := Lib.hid (less_any A C n k cA cC W.heap.size W.heap.size al bl W (Lib.hid hSA0.out.bits) (Lib.hid hSC0.out.bits) (Lib.hid hSA0.out.len) (Lib.hid hSC0.out.len) (by omega) (by omega))
  have hSA1 := Lib.hid (hSA0.out.drew)
  have hSC1 := Lib.hid (hSC0.out.drew)
  have hbW := (Below.refl W.heap.size W).drew
  have hge : Hid (Dg.val al ≤ Dg.val bl) := Lib.hid (by have := of_decide_eq_true hlt.out; omega)
  have hmk : Hid (k0 ≠ m) := Lib.hid (by rintro rfl; simp at hm)
  have hs := Lib.hid hs0
  clear hs0
  go_wp2_with fail
  refine cl.out.mono ?_; rintro e w' ⟨rfl, rfl⟩
  rw [hlt.out]
  go_wp2_with fail
  go_region_held3 (fun w' => w'.cell? ⟨w.heap.size + 1, 0, none⟩ = some (.bool k0) ∧ w'.cell? ⟨w.heap.size + 1, 1, none⟩ = some (.slice C k cC) ∧ w'.cell? ⟨w.heap.size, 1, none⟩ = some (.slice A n cA))
    (first | exact s3 b21 b11 | exact s3 b22 b12 | exact s3 (b22.put (by omega) _ _) (b12.put (by omega) _ _) | (go_keep; done))
    (first | (go_at_call 64; refine (minus_any C A k n cC cA bl al _ hSC1 hSA1 (by omega) (by omega) hge).mono ?_; rintro e w1 ⟨E, kk, c, l, rfl, hkk, hv, hS, hbw, hfr⟩; have b11 := (b1.drew).below hbw b1.lt; have b21 := (b2.drew).below hbw b2.lt; have b31 := (b3.drew).below hbw b3.lt; have hv := Lib.hid hv)
           | (go_at_call 62; refine (short_any k0 E kk c l _ (Lib.hid hS) (by omega)).mono ?_; rintro e w2 ⟨mi2, k2, l2, rfl, hk2, hv2, ht2, hS2, hbw2⟩; have b12 := b11.below hbw2 b11.lt; have b22 := b21.below hbw2 b21.lt; have b32 := b31.below hbw2 b31.lt; have hv2 := Lib.hid hv2; have d1 := b32.c0; have d2 := b32.c1; have d3 := b32.f0; have d4 := b32.f1))
  go_wp2_with fail
  have hfr3 : Fresh (w.heap.size + 3) E := hfr.mono (by show _ ≤ W.heap.size; rw [hs.out]; exact Nat.le_refl _)
  have hWb : Below w.heap.size w ((w2.setCell ⟨w.heap.size + 2, 0, none⟩ (.bool mi2)).setCell ⟨w.heap.size + 2, 1, none⟩ (.slice E k2 c)) :=
    (((((hb.drew).trans (hbw.mono (by have := hs.out; simp; omega))).trans (hbw2.mono (by have := hs.out; have := hbw.size; simp at this; omega))).setCell (by simp) _).setCell (by simp) _)
  refine bodyPost_ret (v := .agg #[.bool mi2, .slice E k2 c]) (by simp [results, Try.results58, go_sem, d1, d2]) rfl ⟨mi2, E, k2, c, l2, rfl, by omega, ?_, ht2, ?_, hWb, hfr3.mono (by omega)⟩
  · rw [hv2.out, sgn_off k0 m l bl al hmk.out hge.out hv.out, Int.add_comm]
  · exact (hS2.setOther _ (fun a ha => by have := hfr3 a ha; show _ ≠ w.heap.size + 2; omega) _).setOther _ (fun a ha => by have := hfr3 a ha; show _ ≠ w.heap.size + 2; omega) _
set_option maxRecDepth 100000 in
set_option maxHeartbeats 1600000 in
theorem add_more (m k0 : Bool) (A C : Option Addr) (n k cA cC : Nat) (al bl : List Bool) (hm : (m == k0) = false) (hlt : Hid (decide (Dg.val al < Dg.val bl) = false)) (w : World) (hSA : Hid (SlB w A n cA al)) (hSC : Hid (SlB w C k cC bl)) (hl : n ≤ 50000) (hl2 : k ≤ 50000) :
    Calls Try.prog 58 #[.agg #[.bool m, .slice A n cA], .agg #[.bool k0, .slice C k cC]] w fun e w' => MadeBig w (sgn m al + sgn k0 bl) (max n k + 1) e w' := by
  go_enter Try.func58, Try.ntmps58
  go_wp2_with fail
  generalize hW : World.alloc (World.alloc (World.alloc w _) _) _ = W
  obtain ⟨b1, b2, b3, hb, hs0⟩ := box_facts _ _ _ _ _ _ _ W hW
  clear hW
  have c1 := b1.c0
  have c2 := b1.c1
  have c3 := b2.c1
  have hSA0 := Lib.hid (hSA.out.keep hb)
  have hSC0 := Lib.hid (hSC.out.keep hb)
  have cl := Lib.hid (less_any A C n k cA cC W.heap.size W.heap.size al bl W (Lib.hid hSA0.out.bits) (Lib.hid hSC0.out.bits) (Lib.hid hSA0.out.len) (Lib.hid hSC0.out.len) (by omega) (by omega))
  have hSA1 := Lib.hid (hSA0.out.drew)
  have hSC1 := Lib.hid (hSC0.out.drew)
  have hbW := (Below.refl W.heap.size W).drew
  have hge : Hid (Dg.val bl ≤ Dg.val al) := Lib.hid (by have := of_decide_eq_false hlt.out; omega)
  have hmk : Hid (m ≠ k0) := Lib.hid (by rintro rfl; simp at hm)
  have hs := Lib.hid hs0
  clear hs0
  go_wp2_with fail
  refine cl.out.mono ?_; rintro e w' ⟨rfl, rfl⟩
  rw [hlt.out]
  go_wp2_with fail
  go_region_held3 (fun w' => w'.cell? ⟨w.heap.size, 0, none⟩ = some (.bool m) ∧ w'.cell? ⟨w.heap.size, 1, none⟩ = some (.slice A n cA) ∧ w'.cell? ⟨w.heap.size + 1, 1, none⟩ = some (.slice C k cC))
    (first | exact s3 b11 b21 | exact s3 b12 b22 | exact s3 (b12.put (by omega) _ _) (b22.put (by omega) _ _) | (go_keep; done))
    (first | (go_at_call 64; refine (minus_any A C n k cA cC al bl _ hSA1 hSC1 (by omega) (by omega) hge).mono ?_; rintro e w1 ⟨E, kk, c, l, rfl, hkk, hv, hS, hbw, hfr⟩; have b11 := (b1.drew).below hbw b1.lt; have b21 := (b2.drew).below hbw b2.lt; have b31 := (b3.drew).below hbw b3.lt; have hv := Lib.hid hv)
           | (go_at_call 62; refine (short_any m E kk c l _ (Lib.hid hS) (by omega)).mono ?_; rintro e w2 ⟨mi2, k2, l2, rfl, hk2, hv2, ht2, hS2, hbw2⟩; have b12 := b11.below hbw2 b11.lt; have b22 := b21.below hbw2 b21.lt; have b32 := b31.below hbw2 b31.lt; have hv2 := Lib.hid hv2; have d1 := b32.c0; have d2 := b32.c1; have d3 := b32.f0; have d4 := b32.f1))
  go_wp2_with fail
  have hfr3 : Fresh (w.heap.size + 3) E := hfr.mono (by show _ ≤ W.heap.size; rw [hs.out]; exact Nat.le_refl _)
  have hWb : Below w.heap.size w ((w2.setCell ⟨w.heap.size + 2, 0, none⟩ (.bool mi2)).setCell ⟨w.heap.size + 2, 1, none⟩ (.slice E k2 c)) :=
    (((((hb.drew).trans (hbw.mono (by have := hs.out; simp; omega))).trans (hbw2.mono (by have := hs.out; have := hbw.size; simp at this; omega))).setCell (by simp) _).setCell (by simp) _)
  refine bodyPost_ret (v := .agg #[.bool mi2, .slice E k2 c]) (by simp [results, Try.results58, go_sem, d1, d2]) rfl ⟨mi2, E, k2, c, l2, rfl, by omega, ?_, ht2, ?_, hWb, hfr3.mono (by omega)⟩
  · rw [hv2.out, sgn_off m k0 l al bl hmk.out hge.out hv.out]
  · exact (hS2.setOther _ (fun a ha => by have := hfr3 a ha; show _ ≠ w.heap.size + 2; omega) _).setOther _ (fun a ha => by have := hfr3 a ha; show _ ≠ w.heap.size + 2; omega) _
theorem add_any (m k0 : Bool) (A C : Option Addr) (n k cA cC : Nat) (al bl : List Bool) (w : World) (hSA : SlB w A n cA al) (hSC : SlB w C k cC bl) (hl : n ≤ 50000) (hl2 : k ≤ 50000) :
    Calls Try.prog 58 #[.agg #[.bool m, .slice A n cA], .agg #[.bool k0, .slice C k cC]] w fun e w' => MadeBig w (sgn m al + sgn k0 bl) (max n k + 1) e w' := by
  by_cases h : m = k0
  · subst h; exact add_same m A C n k cA cC al bl w (Lib.hid hSA) (Lib.hid hSC) hl hl2
  · have hm : (m == k0) = false := by simpa using h
    rcases hd : decide (Dg.val al < Dg.val bl) with _ | _
    · exact add_more m k0 A C n k cA cC al bl hm (Lib.hid hd) w (Lib.hid hSA) (Lib.hid hSC) hl hl2
    · exact add_less m k0 A C n k cA cC al bl hm (Lib.hid hd) w (Lib.hid hSA) (Lib.hid hSC) hl hl2
end Go.Proofs.Ytnmfcbmdopmglaa
