/-
  Contract of the document's answer for edges: cover of stretches.
-/
import Derived.Test.YtflehhepnmcdeaaRef2d
import Derived.Test.YtflehhepnmcdeaaCover
namespace Go.Proofs.Ytflehhepnmcdeaa
open Go.RowKit

/-- What stays through a round of cover: the greatest so far lies in block g. -/
structure KInv (w : World) (g : Nat) (y : Int) (mi : Bool) (E : Option Addr) (n c : Nat) (l : List Bool) (v : World) : Prop where
  bc : BCell v g (.bool mi) (.slice E n c)
  sl : SlB v E n c l
  va : sgn mi l = y
  le : n ≤ 130
  hb : Below w.heap.size w v
  hg : w.heap.size ≤ g
section
variable {w v v' : World} {g : Nat} {y : Int} {mi : Bool} {E : Option Addr} {n c : Nat} {l : List Bool}
theorem KInv.below (h : KInv w g y mi E n c l v) (hb : Below v.heap.size v v') : KInv w g y mi E n c l v' := ⟨h.bc.below hb h.bc.lt, h.sl.keep hb, h.va, h.le, h.hb.trans (hb.mono h.hb.size), h.hg⟩
theorem KInv.alloc (h : KInv w g y mi E n c l v) (o : Obj) : KInv w g y mi E n c l (v.alloc o) := h.below ((Below.refl _ _).alloc (Nat.le_refl _) o)
theorem KInv.drew (h : KInv w g y mi E n c l v) : KInv w g y mi E n c l v.drew := h.below (Below.refl _ _).drew
end

/-- Behind a round's sum: it lies in a block of its own, beside the greatest so far. -/
structure NInv (w : World) (g : Nat) (y z : Int) (mi : Bool) (E : Option Addr) (n c : Nat) (l : List Bool) (qq : Nat) (m3 : Bool) (E3 : Option Addr) (k3 c3 : Nat) (l3 : List Bool) (v : World) : Prop where
  k : KInv w g y mi E n c l v
  b : BCell v qq (.bool m3) (.slice E3 k3 c3)
  s : SlB v E3 k3 c3 l3
  va : sgn m3 l3 = z
  le : k3 ≤ 130
  ne : ∀ a, E3 = some a → a.block ≠ g

theorem ninv_last {w u3 : World} {g : Nat} {y z : Int} {mi m3 : Bool} {E E3 : Option Addr} {n c k3 c3 : Nat} {l l3 : List Bool} (I : KInv w g y mi E n c l u3) (hS : SlB u3 E3 k3 c3 l3) (hv : Hid (sgn m3 l3 = z)) (hk : k3 ≤ 130) {F : Nat} (hf : Fresh F E3) (hF : g < F) :
    NInv w g y z mi E n c l u3.heap.size m3 E3 k3 c3 l3 (u3.alloc (.cells #[.bool m3, .slice E3 k3 c3] 59)) :=
  ⟨I.alloc _, BCell.new u3 _ _ _, hS.al _, hv.out, hk, fun a e => by have := hf a e; omega⟩
theorem ninv_put {w u u3 : World} {g q : Nat} {y z : Int} {mi m3 : Bool} {E E3 : Option Addr} {n c k3 c3 : Nat} {l l3 : List Bool} {a0 b0 : Value} (I : KInv w g y mi E n c l u) (hU : Below u.heap.size u u3) (hq : q = u.heap.size) (bD : BCell u3 q a0 b0) (hS : SlB u3 E3 k3 c3 l3) (hv : Hid (sgn m3 l3 = z)) (hk : k3 ≤ 130) {F : Nat} (hf : Fresh F E3) (hF : q < F) :
    NInv w g y z mi E n c l q m3 E3 k3 c3 l3 ((u3.setCell ⟨q, 0, none⟩ (.bool m3)).setCell ⟨q, 1, none⟩ (.slice E3 k3 c3)) := by
  subst hq
  have hg := I.bc.lt
  have hne : ∀ a, E3 = some a → a.block ≠ u.heap.size := fun a e => by have := hf a e; omega
  exact ⟨I.below ((hU.setCell (Nat.le_refl _) _).setCell (Nat.le_refl _) _), (bD.set0 _).set1 _, (hS.setOther _ hne _).setOther _ hne _, hv.out, hk, fun a e => by have := hf a e; omega⟩

section
variable {w v v' : World} {g qq : Nat} {y z : Int} {mi m3 : Bool} {E E3 : Option Addr} {n c k3 c3 : Nat} {l l3 : List Bool}
theorem NInv.below (h : NInv w g y z mi E n c l qq m3 E3 k3 c3 l3 v) (hb : Below v.heap.size v v') : NInv w g y z mi E n c l qq m3 E3 k3 c3 l3 v' := ⟨h.k.below hb, h.b.below hb h.b.lt, h.s.keep hb, h.va, h.le, h.ne⟩
theorem KInv.nx (h : KInv w g y mi E n c l v) {Y : Int} (e : Y = y) : ∃ (mi : Bool) (E : Option Addr) (n c : Nat) (l : List Bool), KInv w g Y mi E n c l v := ⟨mi, E, n, c, l, e ▸ h⟩
theorem NInv.nx2 (h : NInv w g y z mi E n c l qq m3 E3 k3 c3 l3 v) {Y : Int} (e : Y = z) : ∃ (mi : Bool) (E : Option Addr) (n c : Nat) (l : List Bool), KInv w g Y mi E n c l ((v.setCell ⟨g, 0, none⟩ (.bool m3)).setCell ⟨g, 1, none⟩ (.slice E3 k3 c3)) :=
  ⟨m3, E3, k3, c3, l3, (h.k.bc.set0 _).set1 _, (h.s.setOther _ h.ne _).setOther _ h.ne _, by rw [e]; exact h.va, h.le, (h.k.hb.setCell h.k.hg _).setCell h.k.hg _, h.k.hg⟩
end

/-- The rows of some numbers of all. -/
theorem map_at {fs : List Four} {f : Four → Int} {k : Nat} {x : Four} (h : fs[k]? = some x) : (fs.map f)[k]? = some (f x) := by simp [h]

set_option maxRecDepth 100000 in
set_option maxHeartbeats 6400000 in
theorem rcov_h (f s : Four → Int) (A C : Option Addr) (q cA cC : Nat) (fs : List Four) (w : World) (hA : Hid (Sl intE w A q cA (fs.map f))) (hC : Hid (Sl intE w C q cC (fs.map s))) (hf : Hid (∀ r ∈ fs, I64 (f r))) (hs : Hid (∀ r ∈ fs, I64 (s r))) (hq : Hid (fs.length = q)) (hq0 : 0 < q) (hq1 : q ≤ 1000) (least most : Int) (hle : Hid (leastI f fs = least)) (hmo : Hid (mostI (fun r => f r + s r - least) fs = most)) :
    Calls Try.prog 43 #[.slice A q cA, .slice C q cC] w fun e w' => e = .returned (.tuple #[.int .i64 (cutI least), .int .i64 (cutI most), .bool (farI least || farI most)]) ∧ Below w.heap.size w w' := by
  obtain ⟨x0, hx0⟩ : ∃ x, fs[0]? = some x := ⟨fs[0]'(by rw [hq.out]; omega), List.getElem?_eq_getElem _⟩
  have hl0 : Hid (leastTo f fs 0 = f x0) := Lib.hid (by
    cases fs with
    | nil => simp at hx0
    | cons y l => simp at hx0; subst hx0; rfl)
  obtain ⟨a, rfl, -, c0⟩ := hA.out.at_.int (map_at (f := f) hx0)
  have hok : Hid (I64 least) := Lib.hid (by
    obtain ⟨r, hr, e⟩ := leastI_mem f (l := fs) (by rintro rfl; simp at hx0)
    rw [← hle.out, e]; exact hf.out r hr)
  simp only [Addr.add_zero'] at c0
  have hi0 : 0 < q := hq0
  clear hx0
  go_enter Try.func43, Try.ntmps43
  go_wp2_with fail
  go_loop [7, 8] (fun x i => ∃ k : Nat, k ≤ q ∧ i = .int .i64 k ∧ x = .int .i64 (leastTo f fs k)) (fun _ i => q - (intOf i).toNat)
  case atStart => exact ⟨0, Nat.zero_le _, rfl, by rw [hl0.out]⟩
  case round =>
    obtain ⟨k, hk, rfl, rfl⟩ := hrel
    by_cases hlt : k < q
    · obtain ⟨x, hx⟩ : ∃ x, fs[k]? = some x := ⟨fs[k]'(by rw [hq.out]; omega), List.getElem?_eq_getElem _⟩
      obtain ⟨a', ha', -, c1⟩ := hA.out.at_.int (map_at (f := f) hx)
      obtain rfl := Option.some.inj ha'
      clear ha'
      have e1 : Hid (leastTo f fs (k + 1) = min (leastTo f fs k) (f x)) := Lib.hid (leastTo_succ hx)
      have hi1 : (0 : Int) ≤ (k : Int) := by omega
      have hi2 : (k : Int) < (q : Int) := by omega
      clear hx
      go_wp2_with fail
      go_round
      case rel => exact ⟨k + 1, by omega, by go_num, by rw [e1.out]⟩
      case measure => simp [intOf]; omega
    · have hkq : k = q := by omega
      have hX : leastTo f fs k = least := by rw [← hle.out]; exact leastTo_all (by rw [hq.out]; omega)
      rw [hX]
      have hk1 : ¬ k < q := hlt
      clear hX hkq hl0 c0
      go_wp2_with fail
      refine (of_any 0 w (by constructor <;> decide)).mono ?_; rintro e w1 ⟨m0, E0, n0, d0, l0, rfl, hk0, hv0, -, hS0, hb0, hF0⟩
      have hv0 := Lib.hid hv0
      have hst : Hid (∃ (mi : Bool) (E : Option Addr) (n c : Nat) (l : List Bool), KInv w w1.heap.size (mostI (fun r => f r + s r - least) (fs.take 0)) mi E n c l (w1.alloc (.cells #[.bool m0, .slice E0 n0 d0] 59))) :=
        Lib.hid ⟨m0, E0, n0, d0, l0, BCell.new w1 _ _ _, hS0.al _, hv0.out, by omega, hb0.alloc hb0.size _, hb0.size⟩
      clear hS0 hb0 hF0 hv0
      go_wp2_with fail
      generalize w1.heap.size = g at *
      go_loopw [10] (fun i wr => ∃ j : Nat, j ≤ q ∧ i = .int .i64 j ∧ Hid (∃ (mi : Bool) (E : Option Addr) (n c : Nat) (l : List Bool), KInv w g (mostI (fun r => f r + s r - least) (fs.take j)) mi E n c l wr)) (fun i _ => q - (intOf i).toNat)
      case atStart => exact ⟨0, Nat.zero_le _, rfl, hst⟩
      case round =>
        obtain ⟨j, hj, rfl, hinv⟩ := hrel
        obtain ⟨mi, E, n, c, l, I⟩ := hinv.out
        clear hinv hst
        by_cases hlt2 : j < q
        · obtain ⟨x, hx⟩ : ∃ x, fs[j]? = some x := ⟨fs[j]'(by rw [hq.out]; omega), List.getElem?_eq_getElem _⟩
          obtain ⟨b, rfl, -, -⟩ := hC.out.at_.int (map_at (f := s) hx)
          have cell : ∀ v, Below w.heap.size w v → v.cell? (a.add j) = some (.int .i64 (f x)) ∧ v.cell? (b.add j) = some (.int .i64 (s x)) := fun v hb => by
            obtain ⟨a', e1, _, d1⟩ := (hA.out.at_.keep hb).int (map_at (f := f) hx)
            obtain ⟨b', e2, _, d2⟩ := (hC.out.at_.keep hb).int (map_at (f := s) hx)
            obtain rfl := Option.some.inj e1
            obtain rfl := Option.some.inj e2
            exact ⟨d1, d2⟩
          have cell := Lib.hid cell
          have hm := Lib.hid (mostI_succ (g := fun r => f r + s r - least) hx)
          have r1 := fun w => Lib.hid (radd_any (f x) (s x) w (hf.out x (List.mem_of_getElem? hx)) (hs.out x (List.mem_of_getElem? hx)))
          have r2 := fun w => Lib.hid (rminus_any least w hok.out)
          have hi1 : (0 : Int) ≤ (j : Int) := by omega
          have hi2 : (j : Int) < (q : Int) := by omega
          have s0 := I.bc.lt
          have hbw := I.hb.size
          have hgw := I.hg
          clear hx
          generalize f x = fx at *
          generalize s x = sx at *
          generalize mostI (fun r => f r + s r - least) (fs.take j) = y at *
          go_wp2_with fail
          go_region_held3 (fun w' => w'.cell? (a.add j) = some (.int .i64 fx) ∧ w'.cell? (b.add j) = some (.int .i64 sx))
            (first | (with_reducible exact cell.out _ I.hb) | (with_reducible exact cell.out _ I.drew.hb) | (with_reducible exact cell.out _ (I.alloc _).hb) | (with_reducible exact cell.out _ (I.alloc _).drew.hb) | (with_reducible exact cell.out _ ((I.hb.setCell (by simp; omega) _).setCell (by simp; omega) _)) | (go_keep; done))
            (first | (go_at_call 35; (with_reducible refine (r1 wr.drew).out.mono ?_); rintro e u1 ⟨m1, E1, k1, c1, l1, rfl, hk1, hv1', -, hS1, hb1, hf1⟩; have hv1 := Lib.hid hv1'; clear hv1'; have I := (I.drew).below hb1; have s1 := I.bc.lt) | (go_at_call 35; (with_reducible refine (r1 (wr.alloc _).drew).out.mono ?_); rintro e u1 ⟨m1, E1, k1, c1, l1, rfl, hk1, hv1', -, hS1, hb1, hf1⟩; have hv1 := Lib.hid hv1'; clear hv1'; have IU := I; have hU := ((Below.refl wr.heap.size wr).alloc (Nat.le_refl _) _).drew.trans (hb1.mono (by simp)); have bD := ((BCell.new wr (.bool false) (.slice none 0 0) 59).drew).below hb1 (by simp); have I := ((I.alloc _).drew).below hb1; have s1 := I.bc.lt) | (go_at_call 34; (with_reducible refine (r2 u1).out.mono ?_); rintro e u2 ⟨m2, E2, k2, c2, l2, rfl, hk2, hv2', -, hS2, hb2, hf2⟩; have hv2 := Lib.hid hv2'; clear hv2'; (try have bD := bD.below hb2 bD.lt); (try have hU := hU.trans (hb2.mono hU.size)); have I := (I).below hb2; have hb12 := hb2; have s2 := I.bc.lt) | (go_at_call 34; (with_reducible refine (r2 (u1.alloc _)).out.mono ?_); rintro e u2 ⟨m2, E2, k2, c2, l2, rfl, hk2, hv2', -, hS2, hb2, hf2⟩; have hv2 := Lib.hid hv2'; clear hv2'; have IU := I; have hU := ((Below.refl u1.heap.size u1).alloc (Nat.le_refl _) _).trans (hb2.mono (by simp)); have bD := (BCell.new u1 (.bool false) (.slice none 0 0) 59).below hb2 (by simp); have I := (I.alloc _).below hb2; have hb12 := ((Below.refl u1.heap.size u1).alloc (Nat.le_refl _) _).trans (hb2.mono (by simp)); have s2 := I.bc.lt) | (go_at_call 32; (with_reducible refine (add_val hS1 hS2 hb12 hv1 hv2 (by omega) (by omega)).mono ?_); rintro e u3 ⟨m3, E3, k3, c3, l3, rfl, hk3, hv3', -, hS3, hb3, hf3⟩; have hv3 := Lib.hid hv3'; clear hv3'; (try have bD := bD.below hb3 bD.lt); (try have hU := hU.trans (hb3.mono hU.size)); have I := (I).below hb3; have s3 := I.bc.lt; (try (have d0 := bD.c0; have d1 := bD.c1; have e0 := bD.f0; have e1 := bD.f1))) | (go_at_call 32; (with_reducible refine (add_val hS1 (hS2.al _) (hb12.alloc hb12.size _) hv1 hv2 (by omega) (by omega)).mono ?_); rintro e u3 ⟨m3, E3, k3, c3, l3, rfl, hk3, hv3', -, hS3, hb3, hf3⟩; have hv3 := Lib.hid hv3'; clear hv3'; have IU := I; have hU := ((Below.refl u2.heap.size u2).alloc (Nat.le_refl _) _).trans (hb3.mono (by simp)); have bD := (BCell.new u2 (.bool false) (.slice none 0 0) 59).below hb3 (by simp); have I := (I.alloc _).below hb3; have s3 := I.bc.lt; (try (have d0 := bD.c0; have d1 := bD.c1; have e0 := bD.f0; have e1 := bD.f1))))
          all_goals
            first
            | (have NI := ninv_put IU hU rfl bD hS3 hv3 (by omega) hf3 (by have x1 := hb1.size; have x2 := hb2.size; (try simp at x1); (try simp at x2); (try simp); (try omega)); generalize World.setCell (World.setCell u3 _ _) _ _ = V at NI ⊢)
            | (have NI := ninv_last I hS3 hv3 (by omega) hf3 (by have x1 := hb1.size; have x2 := hb2.size; (try simp at x1); (try simp at x2); (try simp); (try omega)); generalize World.alloc u3 _ = V at NI ⊢)
            have r3 := rless_any mi m3 E E3 n k3 c c3 l l3 V NI.k.sl NI.s (by have := NI.k.le; omega) (by have := NI.le; omega)
            rw [NI.k.va, NI.va] at r3
            have r3 := Lib.hid r3
            have p0 := NI.b.c0
            have p1 := NI.b.c1
            have p2 := NI.k.bc.c0
            have p3 := NI.k.bc.c1
            have NH := Lib.hid NI
            clear NI hS1 hS2 hS3 hb1 hb2 hb3 hf1 hf2 hf3 hb12 I
            (try clear IU hU bD)
            clear hv1 hv2 hv3
            go_wp2_with fail
            refine r3.out.mono ?_; rintro e V2 ⟨rfl, hb4⟩
            have NH := Lib.hid (NH.out.below hb4)
            clear p0 p1 p2 p3
            have p0 := NH.out.b.c0
            have p1 := NH.out.b.c1
            have p2 := NH.out.k.bc.c0
            have p3 := NH.out.k.bc.c1
            have p4 := NH.out.k.bc.f0
            have p5 := NH.out.k.bc.f1
            have hnx0 := fun (h : max y (fx + sx - least) = y) => Lib.hid (NH.out.k.nx (hm.out.trans h))
            rcases hlt3 : decide (y < fx + sx + -least) with _ | _
            · have hnx := hnx0 (by simp at hlt3; omega)
              clear hnx0
              go_wp2_with fail
              go_roundw
              case rel => exact ⟨j + 1, by omega, by go_num, hnx⟩
              case measure => simp [intOf]; omega
            · have hnx := Lib.hid (NH.out.nx2 (hm.out.trans (by simp at hlt3; omega)))
              clear hnx0
              go_wp2_with fail
              go_roundw
              case rel => exact ⟨j + 1, by omega, by go_num, hnx⟩
              case measure => simp [intOf]; omega
        · have hjq : j = q := by omega
          have I2 : KInv w g most mi E n c l wr := by rw [← hmo.out, ← List.take_of_length_le (l := fs) (i := j) (by rw [hq.out]; omega)]; exact I
          have r4 := fun w => Lib.hid (of_any least w hok.out)
          have hi3 : ¬ j < q := hlt2
          clear I hA hC hf hs
          have p2 := I2.bc.c0
          have p3 := I2.bc.c1
          go_wp2_with fail
          refine (r4 wr).out.mono ?_; rintro e V1 ⟨m5, E5, k5, c5, l5, rfl, hk5, hv5', -, hS5, hb5, hf5⟩
          have hv5 := Lib.hid hv5'
          have I3 := I2.below hb5
          clear hv5' p2 p3 r4
          go_wp2_with fail
          refine (cut_val hS5 hv5 (by omega)).mono ?_
          rintro e V2 ⟨rfl, hb6⟩
          have I4 := Lib.hid (I3.below hb6)
          have p2 := I4.out.bc.c0
          have p3 := I4.out.bc.c1
          have r5 := Lib.hid (cut_val I4.out.sl (Lib.hid I4.out.va) (by have := I4.out.le; omega))
          have hbw := Lib.hid I4.out.hb
          clear I2 I3 hS5 hb5 hf5 hv5 hb6
          go_wp2_with fail
          refine r5.out.mono ?_
          rintro e V3 ⟨rfl, hb7⟩
          have hb7 := Lib.hid (hbw.out.trans (hb7.mono hbw.out.size))
          clear r5 p2 p3
          rcases hF : farI least with _ | _
          all_goals
            have HF := Lib.hid hF
            go_wp2_with fail
            go_ret3
            exact ⟨by simp [HF.out], hb7.out⟩
end Go.Proofs.Ytflehhepnmcdeaa
