/-
  The contract of the statements' anchor of stage 3: it answers true; of what was in memory nothing changes.
-/
import Derived.Test.YthkngenmdogpjaaTabAllI
namespace Go.Proofs.Ythkngenmdogpjaa
open Go.RowKit

set_option maxRecDepth 100000 in
set_option maxHeartbeats 3200000 in
theorem works3_any (w : World) : Calls Try.prog 8 #[] w fun e w' => e = .returned (.bool true) ∧ Below w.heap.size w w' := by
  go_enter Try.func8, Try.ntmps8
  go_wp2_with fail
  refine (newI_h 2 (by omega) w).mono ?_
  rintro e w1 ⟨tb, cb, vb, rfl, hN⟩
  have t1 := Lib.hid hN.done
  have s0 := Lib.hid hN.t0
  have s1 := Lib.hid hN.c0
  have s2 := Lib.hid hN.v0
  have b1 := Lib.hid hN.bl
  clear hN
  have k1 := leftI_h tb cb vb _ w1 t1 (by decide)
  have k2 := sizeI_h tb cb vb _ w1 t1
  rw [show leftN (List.replicate 2 (none : Option Int)) = 2 by decide] at k1
  rw [show (List.replicate 2 (none : Option Int)).length = 2 by decide] at k2
  go_wp2_with (first | (go_at_call 26; refine k1.mono ?_; rintro e w' ⟨rfl, rfl⟩) | (go_at_call 25; refine k2.mono ?_; rintro e w' ⟨rfl, rfl⟩))
  clear k1 k2
  -- Get(0): none
  refine (getI_h tb cb vb _ 0 w1 t1).mono ?_; rintro e w2 ⟨rfl, hb⟩
  rw [show (slot (List.replicate 2 (none : Option Int)) 0).join.getD int0 = 0 by decide, show getE (slot (List.replicate 2 (none : Option Int)) 0) = 4 by decide]
  have t2 := Lib.hid (t1.out.below hb)
  have b2 := Lib.hid (b1.out.trans (hb.mono b1.out.size))
  clear hb t1 b1
  go_wp2_with fail
  -- Put(0, 7)
  refine (putI_yes tb cb vb _ 0 7 w2 t2 (Lib.hid rfl) (Lib.hid (by decide))).mono ?_; rintro e w3 ⟨rfl, hT, hb⟩
  have t3 : Hid (Tab intE int0 w3 tb cb vb [some 7, none]) := Lib.hid hT
  have b3 := Lib.hid (below_but b2.out hb b2.out.size (by simp; exact ⟨s1.out, s2.out⟩))
  clear hb t2 b2 hT
  go_wp2_with fail
  -- Put(0, 8)
  refine (putI_no tb cb vb _ 0 8 w3 t3 (.inr ⟨7, rfl⟩)).mono ?_; rintro e w4 ⟨rfl, hb⟩
  rw [show putE (slot [some (7 : Int), none] 0) = 3 by decide]
  have t4 := Lib.hid (t3.out.below hb)
  have b4 := Lib.hid (b3.out.trans (hb.mono b3.out.size))
  clear hb t3 b3
  go_wp2_with fail
  -- Get(0): 7
  refine (getI_h tb cb vb _ 0 w4 t4).mono ?_; rintro e w5 ⟨rfl, hb⟩
  rw [show (slot [some (7 : Int), none] 0).join.getD int0 = 7 by decide, show getE (slot [some (7 : Int), none] 0) = 0 by decide]
  have t5 := Lib.hid (t4.out.below hb)
  have b5 := Lib.hid (b4.out.trans (hb.mono b4.out.size))
  clear hb t4 b4
  go_wp2_with fail
  -- All: not yet
  refine (allI_no tb cb vb _ w5 t5 (by decide) (by decide)).mono ?_; rintro e w6 ⟨rfl, rfl⟩
  go_wp2_with fail
  -- Put(1, 9)
  refine (putI_yes tb cb vb _ 1 9 w5 t5 (Lib.hid rfl) (Lib.hid (by decide))).mono ?_; rintro e w7 ⟨rfl, hT, hb⟩
  have t7 : Hid (Tab intE int0 w7 tb cb vb [some 7, some 9]) := Lib.hid hT
  have b7 := Lib.hid (below_but b5.out hb b5.out.size (by simp; exact ⟨s1.out, s2.out⟩))
  clear hb t5 b5 hT
  go_wp2_with fail
  -- All
  refine (allI_yes tb cb vb _ w7 t7 (by decide) (by decide)).mono ?_; rintro e w8 ⟨E, c, rfl, hS, hb, -, -⟩
  have t8 := Lib.hid (t7.out.below hb)
  have b8 := Lib.hid (b7.out.trans (hb.mono b7.out.size))
  obtain ⟨a, rfl, -, c1⟩ := hS.at_.int (i := 1) (x := 9) rfl
  have c1 : w8.cell? ⟨a.block, a.off + 1, none⟩ = some (.int .i64 9) := by simpa [Addr.add] using c1
  clear hb t7 b7 hS
  have kp := putI_no tb cb vb _ 2 1 w8 t8 (.inl rfl)
  rw [show putE (slot [some (7 : Int), some 9] 2) = 1 by decide] at kp
  go_wp2_with (go_at_call 24; refine kp.mono ?_; rintro e w9 ⟨rfl, hb⟩; have b9 := Lib.hid (b8.out.trans (hb.mono b8.out.size)); clear hb)
  go_ret
  exact ⟨rfl, b9.out⟩
end Go.Proofs.Ythkngenmdogpjaa
