/-
  Contract of the document's Same, of two styles that differ in where their units lie alone.
-/
import Derived.Test.YtcgblbbadbkdgaaLoad4
import Derived.Test.YtcgblbbadbkdgaaEq4
import Derived.Test.YtcgblbbadbkdgaaView5
import Derived.Deep.QuietTactic
import Derived.BigQuiet
namespace Go.Proofs.Ytcgblbbadbkdgaa
open Go.RowKit

/-- The same style, its units elsewhere. -/
def Style.moved (s : Style) (A : Option Addr) (c : Nat) : Style := { s with ua := A, uc := c }
/-- Both styles and both rows of units lie there. -/
structure Two (w0 : World) (s : Style) (A : Option Addr) (c : Nat) (l : List Int) (w : World) : Prop where
  hb : Below w0.heap.size w0 w
  a1 : AtS w w0.heap.size (s.moved A c)
  a2 : AtS w (w0.heap.size + 1) s
  u1 : Sl u16E w A s.un c l
  u2 : Sl u16E w s.ua s.un s.uc l
theorem Two.below {w0 : World} {s : Style} {A : Option Addr} {c : Nat} {l : List Int} {w w' : World} (h : Two w0 s A c l w) (hb : Below w.heap.size w w') : Two w0 s A c l w' :=
  ⟨h.hb.trans (hb.mono h.hb.size), h.a1.below hb, h.a2.below hb, h.u1.below hb, h.u2.below hb⟩
theorem u16_at {w : World} {B : Nat} {A : Option Addr} {l : List Int} (h : Holds u16E w B A l) {k : Nat} {x : Int} (hx : l[k]? = some x) : ∃ a, A = some a ∧ w.cell? (a.add k) = some (.int .u16 x) := by
  obtain ⟨a, e, _, hc⟩ := h.get u16E_len hx
  have := hc 0 _ rfl
  simp only [Nat.mul_one, Nat.add_zero] at this
  exact ⟨a, e, this⟩

set_option maxRecDepth 100000 in
set_option maxHeartbeats 3200000 in
theorem same_any (s : Style) (A : Option Addr) (c : Nat) (l : List Int) (w : World) (h1 : Hid (Sl u16E w A s.un c l)) (h2 : Hid (Sl u16E w s.ua s.un s.uc l)) (hn : s.un ≤ 200000) :
    Calls Try.prog 14 #[styV (s.moved A c), styV s] w fun e w' => e = .returned (.bool true) ∧ Below w.heap.size w w' := by
  unfold styV
  obtain ⟨L1, hL1⟩ : ∃ L, (styE (s.moved A c)).toArray = L := ⟨_, rfl⟩
  obtain ⟨L2, hL2⟩ : ∃ L, (styE s).toArray = L := ⟨_, rfl⟩
  rw [hL1, hL2]
  have hT : Two w s A c l ((w.alloc (.cells L1 28)).alloc (.cells L2 28)) := by
    rw [← hL1, ← hL2]
    have b1 : Below w.heap.size w (w.alloc (.cells (styE (s.moved A c)).toArray 28)) := (Below.refl _ _).alloc (Nat.le_refl _) _
    have b2 := (Below.refl (w.alloc (.cells (styE (s.moved A c)).toArray 28)).heap.size (w.alloc (.cells (styE (s.moved A c)).toArray 28))).alloc (Nat.le_refl _) (.cells (styE s).toArray 28)
    refine ⟨b1.trans (b2.mono b1.size), (at_new w (s.moved A c) _).below b2, ?_, (h1.out.below b1).below b2, (h2.out.below b1).below b2⟩
    have h := at_new (w.alloc (.cells (styE (s.moved A c)).toArray 28)) s 28
    have e : (w.alloc (.cells (styE (s.moved A c)).toArray 28)).heap.size = w.heap.size + 1 := by simp
    rw [e] at h
    exact h
  clear hL1 hL2 h1 h2
  have p1 : ((w.alloc (.cells L1 28)).alloc (.cells L2 28)).cell? ⟨w.heap.size, 42, none⟩ = some (.slice A s.un c) := hT.a1.2 42 _ rfl
  have p2 : ((w.alloc (.cells L1 28)).alloc (.cells L2 28)).cell? ⟨w.heap.size + 1, 42, none⟩ = some (.slice s.ua s.un s.uc) := hT.a2.2 42 _ rfl
  replace hT := Lib.hid hT
  go_enter Try.func14, Try.ntmps14
  go_wp2_with fail
  go_loopw [5] (fun i wr => ∃ k : Nat, k ≤ s.un ∧ i = .int .i64 k ∧ Hid (Two w s A c l wr)) (fun i _ => s.un - (intOf i).toNat)
  case atStart => exact ⟨0, Nat.zero_le _, rfl, hT⟩
  case round =>
    obtain ⟨k, hk, rfl, hinv⟩ := hrel
    have p1 : wr.cell? ⟨w.heap.size, 42, none⟩ = some (.slice A s.un c) := hinv.out.a1.2 42 _ rfl
    have p2 : wr.cell? ⟨w.heap.size + 1, 42, none⟩ = some (.slice s.ua s.un s.uc) := hinv.out.a2.2 42 _ rfl
    by_cases hlt : k < s.un
    · have hkl : k < l.length := by rw [← hinv.out.u1.len]; exact hlt
      obtain ⟨x, hx⟩ : ∃ x, l[k]? = some x := ⟨l[k], List.getElem?_eq_getElem hkl⟩
      obtain ⟨a1, e1, c1⟩ := u16_at hinv.out.u1.at_ hx
      obtain ⟨a2, e2, c2⟩ := u16_at hinv.out.u2.at_ hx
      rw [e1] at p1
      rw [e2] at p2
      clear hx hkl
      have hi1 : (0 : Int) ≤ (k : Int) := by omega
      have hi2 : (k : Int) < (s.un : Int) := by omega
      have hnew := Lib.hid (fun q => hinv.out.below (bl_drewN (Below.refl wr.heap.size wr) q))
      go_wp2_with fail
      go_quiet (fail)
      go_wp2_with fail
      go_roundw
      case rel => exact ⟨k + 1, by omega, by go_num, Lib.hid (hnew.out _)⟩
      case measure => simp [intOf]; omega
    · have hkn : k = s.un := by omega
      subst hkn
      have q1 := hinv.out.a1.2
      have q2 := hinv.out.a2.2
      have x0 : wr.cell? ⟨w.heap.size, 0, none⟩ = some (.int .u8 s.kind) := q1 0 _ rfl
      have y0 : wr.cell? ⟨w.heap.size + 1, 0, none⟩ = some (.int .u8 s.kind) := q2 0 _ rfl
      have x1 : wr.cell? ⟨w.heap.size, 1, none⟩ = some (.bool s.flow) := q1 1 _ rfl
      have y1 : wr.cell? ⟨w.heap.size + 1, 1, none⟩ = some (.bool s.flow) := q2 1 _ rfl
      have x2 : wr.cell? ⟨w.heap.size, 2, none⟩ = some (.int .u8 s.float) := q1 2 _ rfl
      have y2 : wr.cell? ⟨w.heap.size + 1, 2, none⟩ = some (.int .u8 s.float) := q2 2 _ rfl
      have x3 : wr.cell? ⟨w.heap.size, 3, none⟩ = some (.int .u8 s.clear) := q1 3 _ rfl
      have y3 : wr.cell? ⟨w.heap.size + 1, 3, none⟩ = some (.int .u8 s.clear) := q2 3 _ rfl
      have x4 : wr.cell? ⟨w.heap.size, 4, none⟩ = some (.int .u8 s.w.k) := q1 4 _ rfl
      have y4 : wr.cell? ⟨w.heap.size + 1, 4, none⟩ = some (.int .u8 s.w.k) := q2 4 _ rfl
      have x5 : wr.cell? ⟨w.heap.size, 5, none⟩ = some (.int .i64 s.w.n) := q1 5 _ rfl
      have y5 : wr.cell? ⟨w.heap.size + 1, 5, none⟩ = some (.int .i64 s.w.n) := q2 5 _ rfl
      have x6 : wr.cell? ⟨w.heap.size, 6, none⟩ = some (.int .u8 s.h.k) := q1 6 _ rfl
      have y6 : wr.cell? ⟨w.heap.size + 1, 6, none⟩ = some (.int .u8 s.h.k) := q2 6 _ rfl
      have x7 : wr.cell? ⟨w.heap.size, 7, none⟩ = some (.int .i64 s.h.n) := q1 7 _ rfl
      have y7 : wr.cell? ⟨w.heap.size + 1, 7, none⟩ = some (.int .i64 s.h.n) := q2 7 _ rfl
      have x8 : wr.cell? ⟨w.heap.size, 8, none⟩ = some (.int .u8 s.minW.k) := q1 8 _ rfl
      have y8 : wr.cell? ⟨w.heap.size + 1, 8, none⟩ = some (.int .u8 s.minW.k) := q2 8 _ rfl
      have x9 : wr.cell? ⟨w.heap.size, 9, none⟩ = some (.int .i64 s.minW.n) := q1 9 _ rfl
      have y9 : wr.cell? ⟨w.heap.size + 1, 9, none⟩ = some (.int .i64 s.minW.n) := q2 9 _ rfl
      have x10 : wr.cell? ⟨w.heap.size, 10, none⟩ = some (.int .u8 s.maxW.k) := q1 10 _ rfl
      have y10 : wr.cell? ⟨w.heap.size + 1, 10, none⟩ = some (.int .u8 s.maxW.k) := q2 10 _ rfl
      have x11 : wr.cell? ⟨w.heap.size, 11, none⟩ = some (.int .i64 s.maxW.n) := q1 11 _ rfl
      have y11 : wr.cell? ⟨w.heap.size + 1, 11, none⟩ = some (.int .i64 s.maxW.n) := q2 11 _ rfl
      have x12 : wr.cell? ⟨w.heap.size, 12, none⟩ = some (.int .u8 s.minH.k) := q1 12 _ rfl
      have y12 : wr.cell? ⟨w.heap.size + 1, 12, none⟩ = some (.int .u8 s.minH.k) := q2 12 _ rfl
      have x13 : wr.cell? ⟨w.heap.size, 13, none⟩ = some (.int .i64 s.minH.n) := q1 13 _ rfl
      have y13 : wr.cell? ⟨w.heap.size + 1, 13, none⟩ = some (.int .i64 s.minH.n) := q2 13 _ rfl
      have x14 : wr.cell? ⟨w.heap.size, 14, none⟩ = some (.int .u8 s.maxH.k) := q1 14 _ rfl
      have y14 : wr.cell? ⟨w.heap.size + 1, 14, none⟩ = some (.int .u8 s.maxH.k) := q2 14 _ rfl
      have x15 : wr.cell? ⟨w.heap.size, 15, none⟩ = some (.int .i64 s.maxH.n) := q1 15 _ rfl
      have y15 : wr.cell? ⟨w.heap.size + 1, 15, none⟩ = some (.int .i64 s.maxH.n) := q2 15 _ rfl
      have x16 : wr.cell? ⟨w.heap.size, 16, none⟩ = some (.int .u8 s.m0.k) := q1 16 _ rfl
      have y16 : wr.cell? ⟨w.heap.size + 1, 16, none⟩ = some (.int .u8 s.m0.k) := q2 16 _ rfl
      have x17 : wr.cell? ⟨w.heap.size, 17, none⟩ = some (.int .i64 s.m0.n) := q1 17 _ rfl
      have y17 : wr.cell? ⟨w.heap.size + 1, 17, none⟩ = some (.int .i64 s.m0.n) := q2 17 _ rfl
      have x18 : wr.cell? ⟨w.heap.size, 18, none⟩ = some (.int .u8 s.m1.k) := q1 18 _ rfl
      have y18 : wr.cell? ⟨w.heap.size + 1, 18, none⟩ = some (.int .u8 s.m1.k) := q2 18 _ rfl
      have x19 : wr.cell? ⟨w.heap.size, 19, none⟩ = some (.int .i64 s.m1.n) := q1 19 _ rfl
      have y19 : wr.cell? ⟨w.heap.size + 1, 19, none⟩ = some (.int .i64 s.m1.n) := q2 19 _ rfl
      have x20 : wr.cell? ⟨w.heap.size, 20, none⟩ = some (.int .u8 s.m2.k) := q1 20 _ rfl
      have y20 : wr.cell? ⟨w.heap.size + 1, 20, none⟩ = some (.int .u8 s.m2.k) := q2 20 _ rfl
      have x21 : wr.cell? ⟨w.heap.size, 21, none⟩ = some (.int .i64 s.m2.n) := q1 21 _ rfl
      have y21 : wr.cell? ⟨w.heap.size + 1, 21, none⟩ = some (.int .i64 s.m2.n) := q2 21 _ rfl
      have x22 : wr.cell? ⟨w.heap.size, 22, none⟩ = some (.int .u8 s.m3.k) := q1 22 _ rfl
      have y22 : wr.cell? ⟨w.heap.size + 1, 22, none⟩ = some (.int .u8 s.m3.k) := q2 22 _ rfl
      have x23 : wr.cell? ⟨w.heap.size, 23, none⟩ = some (.int .i64 s.m3.n) := q1 23 _ rfl
      have y23 : wr.cell? ⟨w.heap.size + 1, 23, none⟩ = some (.int .i64 s.m3.n) := q2 23 _ rfl
      have x24 : wr.cell? ⟨w.heap.size, 24, none⟩ = some (.int .i64 s.b0) := q1 24 _ rfl
      have y24 : wr.cell? ⟨w.heap.size + 1, 24, none⟩ = some (.int .i64 s.b0) := q2 24 _ rfl
      have x25 : wr.cell? ⟨w.heap.size, 25, none⟩ = some (.int .i64 s.b1) := q1 25 _ rfl
      have y25 : wr.cell? ⟨w.heap.size + 1, 25, none⟩ = some (.int .i64 s.b1) := q2 25 _ rfl
      have x26 : wr.cell? ⟨w.heap.size, 26, none⟩ = some (.int .i64 s.b2) := q1 26 _ rfl
      have y26 : wr.cell? ⟨w.heap.size + 1, 26, none⟩ = some (.int .i64 s.b2) := q2 26 _ rfl
      have x27 : wr.cell? ⟨w.heap.size, 27, none⟩ = some (.int .i64 s.b3) := q1 27 _ rfl
      have y27 : wr.cell? ⟨w.heap.size + 1, 27, none⟩ = some (.int .i64 s.b3) := q2 27 _ rfl
      have x28 : wr.cell? ⟨w.heap.size, 28, none⟩ = some (.int .i64 s.p0) := q1 28 _ rfl
      have y28 : wr.cell? ⟨w.heap.size + 1, 28, none⟩ = some (.int .i64 s.p0) := q2 28 _ rfl
      have x29 : wr.cell? ⟨w.heap.size, 29, none⟩ = some (.int .i64 s.p1) := q1 29 _ rfl
      have y29 : wr.cell? ⟨w.heap.size + 1, 29, none⟩ = some (.int .i64 s.p1) := q2 29 _ rfl
      have x30 : wr.cell? ⟨w.heap.size, 30, none⟩ = some (.int .i64 s.p2) := q1 30 _ rfl
      have y30 : wr.cell? ⟨w.heap.size + 1, 30, none⟩ = some (.int .i64 s.p2) := q2 30 _ rfl
      have x31 : wr.cell? ⟨w.heap.size, 31, none⟩ = some (.int .i64 s.p3) := q1 31 _ rfl
      have y31 : wr.cell? ⟨w.heap.size + 1, 31, none⟩ = some (.int .i64 s.p3) := q2 31 _ rfl
      have x32 : wr.cell? ⟨w.heap.size, 32, none⟩ = some (.int .u8 s.align) := q1 32 _ rfl
      have y32 : wr.cell? ⟨w.heap.size + 1, 32, none⟩ = some (.int .u8 s.align) := q2 32 _ rfl
      have x33 : wr.cell? ⟨w.heap.size, 33, none⟩ = some (.int .i64 s.line) := q1 33 _ rfl
      have y33 : wr.cell? ⟨w.heap.size + 1, 33, none⟩ = some (.int .i64 s.line) := q2 33 _ rfl
      have x34 : wr.cell? ⟨w.heap.size, 34, none⟩ = some (.bool s.wrap) := q1 34 _ rfl
      have y34 : wr.cell? ⟨w.heap.size + 1, 34, none⟩ = some (.bool s.wrap) := q2 34 _ rfl
      have x35 : wr.cell? ⟨w.heap.size, 35, none⟩ = some (.int .u8 s.justify) := q1 35 _ rfl
      have y35 : wr.cell? ⟨w.heap.size + 1, 35, none⟩ = some (.int .u8 s.justify) := q2 35 _ rfl
      have x36 : wr.cell? ⟨w.heap.size, 36, none⟩ = some (.int .u8 s.items) := q1 36 _ rfl
      have y36 : wr.cell? ⟨w.heap.size + 1, 36, none⟩ = some (.int .u8 s.items) := q2 36 _ rfl
      have x37 : wr.cell? ⟨w.heap.size, 37, none⟩ = some (.int .i64 s.order) := q1 37 _ rfl
      have y37 : wr.cell? ⟨w.heap.size + 1, 37, none⟩ = some (.int .i64 s.order) := q2 37 _ rfl
      have x38 : wr.cell? ⟨w.heap.size, 38, none⟩ = some (.int .i64 s.grow) := q1 38 _ rfl
      have y38 : wr.cell? ⟨w.heap.size + 1, 38, none⟩ = some (.int .i64 s.grow) := q2 38 _ rfl
      have x39 : wr.cell? ⟨w.heap.size, 39, none⟩ = some (.int .i64 s.shrink) := q1 39 _ rfl
      have y39 : wr.cell? ⟨w.heap.size + 1, 39, none⟩ = some (.int .i64 s.shrink) := q2 39 _ rfl
      have x40 : wr.cell? ⟨w.heap.size, 40, none⟩ = some (.int .u8 s.basis.k) := q1 40 _ rfl
      have y40 : wr.cell? ⟨w.heap.size + 1, 40, none⟩ = some (.int .u8 s.basis.k) := q2 40 _ rfl
      have x41 : wr.cell? ⟨w.heap.size, 41, none⟩ = some (.int .i64 s.basis.n) := q1 41 _ rfl
      have y41 : wr.cell? ⟨w.heap.size + 1, 41, none⟩ = some (.int .i64 s.basis.n) := q2 41 _ rfl
      clear q1 q2
      have e1 := len_eq
      have e2 := lens_eq
      have e3 := sides_eq4
      go_wp2_with fail
      go_ret
      exact ⟨rfl, hinv.out.hb⟩
end Go.Proofs.Ytcgblbbadbkdgaa
