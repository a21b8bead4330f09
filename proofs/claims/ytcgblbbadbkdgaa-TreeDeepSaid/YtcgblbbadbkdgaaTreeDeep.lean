/-
  A chain of boxes may be as deep as may be, and no deeper; nor may there be too many nodes: for every input, no conditions.
-/
import Derived.Test.YtcgblbbadbkdgaaWorks5
import Derived.Test.YtcgblbbadbkdgaaLawCore
import Derived.Test.YtcgblbbadbkdgaaChains
import Derived.Deep.DeepCutAuto
import Derived.Deep.RegionHeld3
import Derived.ProofKit
import Derived.OpenShut
import Derived.BigGuard
namespace Go.Proofs.Ytcgblbbadbkdgaa.lawTreeDeep
open Go.ChangeShapes Go.WideShapes Go.ChangeAt Go.RowKit Go.Proofs.Ytcgblbbadbkdgaa
set_option linter.unusedVariables false

theorem own : ownKnob Try.prog.godebug = none := by kernel_rfl

set_option maxRecDepth 100000 in
set_option maxHeartbeats 3200000 in
theorem walk (W : World) (more : Int) (wm : (Lit.int .u8 more).wf = true) (many : Bool) :
    Calls Try.prog 8 #[.int .u8 more, .bool many] W fun e w' => e = .returned (.bool true) ∧ Below W.heap.size W w' := by
  have wm : 0 ≤ more ∧ more ≤ 255 := by
    simp [Lit.wf, IntKind.min, IntKind.max, IntKind.signed, IntKind.bits] at wm
    omega
  obtain ⟨m, rfl⟩ := Int.eq_ofNat_of_zero_le wm.1
  have hw := fun w => works5_any w
  have hm2 : m ≤ 255 := by omega
  clear wm
  go_enter Try.func8, Try.ntmps8
  go_upto_region 2 with fail
  have hG := GrowT.start W [.slice none 0 0, .int .i64 0] 35
  generalize hV2 : World.alloc W _ = V
  replace hG : Hid (GrowT W W.heap.size (.slice none 0 0) [.slice none 0 0, .int .i64 0] [] V) := by rw [← hV2]; exact Lib.hid hG
  obtain ⟨tb, htb⟩ : ∃ tb, tb = W.heap.size := ⟨_, rfl⟩
  rw [← htb] at hG ⊢
  clear htb hV2
  cases many
  · obtain ⟨K, hK⟩ : ∃ K : Nat, K = 507 + m % 10 := ⟨_, rfl⟩
    have hK1 : (507 : Int) + (m : Int) % 10 = (K : Int) := by omega
    have hK2 : Int.tmod (m : Int) 10 = (m : Int) % 10 := by rw [Int.tmod_eq_emod_of_nonneg (by omega)]
    have hK3 : 507 ≤ K ∧ K ≤ 516 := by omega
    obtain ⟨hK4, hK5⟩ := hK3
    replace hK := Lib.hid hK
    go_wp2_with fail
    go_loopw [12] (fun i wr => ∃ k : Nat, k ≤ K ∧ i = .int .i64 k ∧ ∃ v, Hid (GrowT W tb v [.slice none 0 0, .int .i64 0] (chainNs k) wr)) (fun i _ => K - (intOf i).toNat)
    case atStart => exact ⟨0, Nat.zero_le _, rfl, _, hG⟩
    case round =>
      clear hG
      obtain ⟨k, hk, rfl, v, hG⟩ := hrel
      have hlen := chainNs_len k
      by_cases hlt : k < K
      · have hlt' : (k : Int) < (K : Int) := by omega
        obtain ⟨A0, c0, rfl, hS0, hN0⟩ := hG.out.sl
        have h0 := hG.out.head.cell 0 _ rfl
        have hlt0 := hG.out.head.lt
        have hnx := Lib.hid (chainNs_succ k)
        have hr := Lib.hid (hG.out.ready (plainN ((k : Int) - 1) 1) _ rfl)
        have hnl : (chainNs k).length + 1 ≤ 100000000 := by omega
        clear hG hS0 hN0 hlen
        generalize chainNs k = nk at *
        go_wp2_with (at_builtin; refine append_row (f := nodeE) rfl (.tmp 71) (.tmp 76) 32 49 rfl _ 328 Try.underlying32 infoNode2 rfl (by decide) (by decide) nodeE_len nodeE_one W.heap.size _ nk.length nk rfl hr.out.1 _ _ 1 1 [plainN ((k : Int) - 1) 1] rfl (fun h => by cases h) (Lib.hid rfl) hr.out.2.2.1 hnl hr.out.2.1 ?_; intro v' w' h3 h4 h5; obtain ⟨A2, c2, rfl, -, -⟩ := Sl.own h3 nodeE_len (by omega); obtain ⟨hG2, cq, fq, lq⟩ := hr.out.2.2.2 _ w' h3 h4 h5; replace hG2 := Lib.hid hG2; clear h3 h4 h5 hr)
        go_roundw
        case rel => exact ⟨k + 1, by omega, by go_num, _, by rw [hnx.out]; exact hG2⟩
        case measure => simp [intOf]; omega
      · have e : k = K := by omega
        have hlt' : ¬ (k : Int) < (K : Int) := by omega
        rw [e] at hG hlen
        obtain ⟨A0, c0, rfl, hS0, hN0⟩ := hG.out.sl
        rw [hlen] at hG hS0
        have h0 := hG.out.head.cell 0 _ rfl
        have h1 := hG.out.head.cell 1 _ rfl
        have h2 := hG.out.head.cell 2 _ rfl
        replace e := Lib.hid e
        by_cases h5 : 512 < K
        · have k1 := chk_h A0 K c0 (chainNs K) wr 512 512 8 (Lib.hid ⟨hS0, Sl.none_ _⟩) (by omega) (by rw [check_chain (by omega) (by omega), if_pos h5]) rfl
          have h5' : (512 : Int) < (K : Int) := by omega
          clear hS0 hN0
          go_wp2_with (first | (go_at_call 18; refine k1.mono ?_; rintro e' w2 ⟨rfl, hb2⟩; replace hG := Lib.hid (hG.out.below hb2)) | (go_at_call 16; refine (hw _).mono ?_; rintro e3 w7 ⟨rfl, hb7⟩))
          go_ret
          exact ⟨rfl, hG.out.hb.trans (hb7.mono hG.out.hb.size)⟩
        · have k1 := chk_h A0 K c0 (chainNs K) wr 0 0 0 (Lib.hid ⟨hS0, Sl.none_ _⟩) (by omega) (by rw [check_chain (by omega) (by omega), if_neg h5]) rfl
          have h5' : ¬ (512 : Int) < (K : Int) := by omega
          clear hS0 hN0
          go_wp2_with (first | (go_at_call 18; refine k1.mono ?_; rintro e' w2 ⟨rfl, hb2⟩; replace hG := Lib.hid (hG.out.below hb2)) | (go_at_call 16; refine (hw _).mono ?_; rintro e3 w7 ⟨rfl, hb7⟩))
          go_ret
          exact ⟨rfl, hG.out.hb.trans (hb7.mono hG.out.hb.size)⟩
  · obtain ⟨N, hN⟩ : ∃ N : Nat, N = 65537 := ⟨_, rfl⟩
    have hN1 : (N : Int) = 65537 := by omega
    go_wp2_with fail
    go_loopw [6] (fun i wr => ∃ k : Nat, k ≤ N ∧ i = .int .i64 k ∧ ∃ v, Hid (GrowT W tb v [.slice none 0 0, .int .i64 0] (flatNs k) wr)) (fun i _ => N - (intOf i).toNat)
    case atStart => exact ⟨0, Nat.zero_le _, rfl, _, hG⟩
    case round =>
      clear hG
      obtain ⟨k, hk, rfl, v, hG⟩ := hrel
      have hlen := flatNs_len k
      by_cases hlt : k < N
      · have hlt' : (k : Int) ≤ 65536 := by omega
        obtain ⟨A0, c0, rfl, hS0, hN0⟩ := hG.out.sl
        have h0 := hG.out.head.cell 0 _ rfl
        have hlt0 := hG.out.head.lt
        have hnx := Lib.hid (flatNs_succ k)
        have hr := Lib.hid (hG.out.ready (plainN (min ((k : Int) - 1) 0) 1) _ rfl)
        have hnl : (flatNs k).length + 1 ≤ 100000000 := by omega
        clear hG hS0 hN0 hlen
        generalize flatNs k = nk at *
        go_wp2_with (at_builtin; refine append_row (f := nodeE) rfl (.tmp 21) (.tmp 27) 32 49 rfl _ 328 Try.underlying32 infoNode2 rfl (by decide) (by decide) nodeE_len nodeE_one W.heap.size _ nk.length nk rfl hr.out.1 _ _ 1 1 [plainN (min ((k : Int) - 1) 0) 1] rfl (fun h => by cases h) (Lib.hid rfl) hr.out.2.2.1 hnl hr.out.2.1 ?_; intro v' w' h3 h4 h5; obtain ⟨A2, c2, rfl, -, -⟩ := Sl.own h3 nodeE_len (by omega); obtain ⟨hG2, cq, fq, lq⟩ := hr.out.2.2.2 _ w' h3 h4 h5; replace hG2 := Lib.hid hG2; clear h3 h4 h5 hr)
        go_roundw
        case rel => exact ⟨k + 1, by omega, by go_num, _, by rw [hnx.out]; exact hG2⟩
        case measure => simp [intOf]; omega
      · have e : k = N := by omega
        have hlt' : ¬ (k : Int) ≤ 65536 := by omega
        rw [e] at hG
        obtain ⟨x, y, r, e1, e2⟩ : ∃ x y r, flatNs N = x :: y :: r ∧ flatNs (N - 1) = { y with p := -1 } :: r := by rw [hN]; exact flat_tail 65535
        have hC1 : checkI (flatNs N) [] 0 = (0, 7) := by rw [check_flat (by omega), if_pos (by omega)]
        have hC2 : checkI (flatNs (N - 1)) [] 0 = (0, 0) := by rw [check_flat (by omega), if_neg (by omega)]
        have ho := hG.out.own
        rw [show (flatNs N).length = N - 1 + 1 by rw [flatNs_len]; omega, e1] at ho
        obtain ⟨q, cap, rfl, hcap, hqW, -, -, -, -⟩ := own_tail ho
        have hN2 : N - 1 + 1 = N := by omega
        rw [hN2] at hG hcap
        have hS : Sl nodeE wr (some ⟨q, 0, none⟩) N cap (flatNs N) := by
          obtain ⟨A, c, ee, hS, _⟩ := hG.out.sl
          simp at ee
          rw [flatNs_len] at hS ee
          rw [ee.1, ee.2.2]
          exact hS
        have k1 := chk_h (some ⟨q, 0, none⟩) N cap (flatNs N) wr 0 0 7 (Lib.hid ⟨hS, Sl.none_ _⟩) (by omega) hC1 rfl
        have h0 := hG.out.head.cell 0 _ rfl
        have h1 := hG.out.head.cell 1 _ rfl
        have h2 := hG.out.head.cell 2 _ rfl
        have hqtb : q ≠ tb := by have := hG.out.ne; intro e; apply this; rw [e]; rfl
        replace hN := Lib.hid hN
        replace e := Lib.hid e
        have hqW0 := Lib.hid hqW
        clear hlen hS ho hN2
        rw [e.out] at hlt' ⊢
        go_upto_region 8 with (go_at_call 18; refine k1.mono ?_; rintro e' w2 ⟨rfl, hb2⟩)
        replace hG := Lib.hid (hG.out.below hb2)
        have p0 := hG.out.head.cell 0 _ rfl
        have f0 := hG.out.head.free 0 (by simp)
        have hlt2 := hG.out.head.lt
        clear h0 h1 h2 hb2 k1
        have n1 : (1 : Int) ≤ (N : Int) := by omega
        have n2 : ¬ N = 1 := by omega
        have n3 : ¬ N - 1 = 0 := by omega
        have n4 : ¬ cap = 1 := by omega
        go_upto_region 9 with fail
        generalize hW : World.setCell w2 _ _ = V3
        obtain ⟨hG3, ho3, hb3, h32⟩ : Box V3 tb [.slice (some ⟨q, 44, none⟩) (N - 1) (cap - 1), .slice none 0 0, .int .i64 0] ∧ V3.ownsRow W.heap.size 49 44 (.slice (some ⟨q, 0, none⟩) N cap) (N - 1 + 1) ((x :: y :: r).flatMap nodeE) ∧ Below W.heap.size W V3 ∧ True := by
          subst hW
          have bu : But [tb] w2 (w2.setCell ⟨tb, 0, none⟩ (.slice (some ⟨q, 44, none⟩) (N - 1) (cap - 1))) := (But.refl _ _).set tb 0 (.inl (by simp)) _
          have h2 := own_but hG.out.own bu hG.out.ne
          rw [show (flatNs N).length = N - 1 + 1 by rw [flatNs_len]; omega, e1] at h2
          exact ⟨hG.out.head.set 0 _ (by simp), h2, hG.out.hb.setCell hG.out.ge _, trivial⟩
        obtain ⟨q', cap', eq, -, -, hq1, hq2, hq3, hq4⟩ := own_tail ho3
        simp at eq
        obtain ⟨rfl, -, rfl⟩ := eq
        have hS4 := hq4 (-1)
        rw [← e2] at hS4
        have m0 := hG3.cell 0 _ rfl
        have mlt := hG3.lt
        have n5 : (0 : Int) < ((N - 1 : Nat) : Int) := by omega
        clear hW p0 f0 ho3 h32 e1 e2 hq4 hqW
        replace hS4 := Lib.hid hS4
        replace hG3 := Lib.hid hG3
        replace hb3 := Lib.hid hb3
        replace hG := Lib.hid hG.out.ge
        have hqW : Hid (W.heap.size ≤ q) := Lib.hid (by have := hqW0.out; exact this)
        go_upto_region 10 with fail
        generalize hW : World.setCell V3 _ _ = V4 at *
        obtain ⟨hG4, hb4⟩ : Box V4 tb [.slice (some ⟨q, 44, none⟩) (N - 1) (cap - 1), .slice none 0 0, .int .i64 0] ∧ Below W.heap.size W V4 := by
          subst hW
          exact ⟨hG3.out.off hqtb 44 _, hb3.out.setCell hqW.out _⟩
        have c0 := hG4.cell 0 _ rfl
        have c1 := hG4.cell 1 _ rfl
        have c2 := hG4.cell 2 _ rfl
        have k2 := chk_h (some ⟨q, 44, none⟩) (N - 1) (cap - 1) (flatNs (N - 1)) V4 0 0 0 (Lib.hid ⟨hS4.out, Sl.none_ _⟩) (by omega) hC2 rfl
        replace hb4 := Lib.hid hb4
        clear hW hG4 hG3 hS4 m0 hq2 hq3 hb3
        go_wp2_with (first | (go_at_call 18; refine k2.mono ?_; rintro e' w4 ⟨rfl, hb5⟩; replace hb4 := Lib.hid (hb4.out.trans (hb5.mono hb4.out.size))) | (go_at_call 16; refine (hw _).mono ?_; rintro e3 w7 ⟨rfl, hb7⟩))
        go_ret
        exact ⟨rfl, hb4.out.trans (hb7.mono hb4.out.size)⟩

set_option maxRecDepth 100000 in
theorem lifted (os : Os) (started : os.Started) (H : Type) (enc : TypeId × Value → H) :
    ReturnsInHanded {} Try.checked os 8 .any (Rows.treeDeepSpec.pre6 enc Try.prog Try.f8 Rows.treeDeepRow.domain false) (Rows.treeDeepSpec.post enc Try.prog Try.f8 false true false false) := by
  refine returnsInHanded_of_change (C := Try.checked) own started (by kernel_rfl) Try.func8
    (ChangeSpec.witness6 (enc := enc) (C := Try.checked) false ⟨#[], #[.int .u8 0, .bool false], []⟩ 20 (by kernel_rfl) (by kernel_rfl) (by kernel_rfl) (by kernel_rfl)) ?_
  intro W base args ds gs before hval0 hW hcnd _
  have hval : ∀ (j : Nat) t v, Try.f8.params[j]? = some t → args[j]? = some v → Value.okWide Try.prog W .any base t v := hval0
  have hW' := hW
  obtain ⟨p, q, hA0, hV, rfl, hfz, hnd⟩ := hW
  have hA : DataW.TrodAll enc Try.prog W 0 (fun _ => true) true Try.f8.params.toList args.toList ds p := hA0
  rw [Try.params8] at hA hval
  obtain ⟨v0, vs0, d0, ds0, p0, q0, hargs, rfl, rfl, h0, r0⟩ := trodAll_cons hA
  obtain ⟨v1, vs1, d1, ds1, p1, q1, rfl, rfl, rfl, h1, r1⟩ := trodAll_cons r0
  obtain ⟨rfl, rfl, rfl⟩ := trodAll_nil r1
  obtain rfl : args = #[v0, v1] := by cases args; simp_all
  obtain ⟨rfl, rfl⟩ := trodVars_none hV
  obtain ⟨a0, rfl, -, -, w0⟩ := open_int Try.underlying5 (hval 0 5 v0 rfl rfl) h0
  obtain ⟨a1, rfl, -, -⟩ := open_bool Try.underlying4 (hval 1 4 v1 rfl rfl) h1
  refine (walk W a0 w0 a1).mono fun e W' ⟨he, hg⟩ => ?_
  subst he
  exact ⟨_, rfl, law_post laidOut (by kernel_rfl) rfl Try.underlying4 rfl hW' rfl rfl rfl hg⟩

theorem over : Rows.treeDeepRow.holds Try.pinned (OpenSpec.ofChange Rows.treeDeepSpec) :=
  OpenClaim.holds_of_wide 8 Try.f8 rfl rfl rfl rfl rfl rfl rfl ⟨rfl, rfl, rfl, rfl, rfl⟩ rfl rfl rfl rfl rfl (by kernel_rfl) Try.func8 (by kernel_rfl)
    (of_decide_eq_true (by kernel_rfl)) (by unfold Func.isWrapper; first | (rw [if_pos (by decide +kernel)]; kernel_rfl) | (rw [if_neg (by decide +kernel)]; exact ⟨rfl, rfl⟩))
    (fun os started H enc _ => lifted os started H enc)

/-- The statement. -/
theorem proved : Rows.TreeDeepSaid := over
#print axioms proved
end Go.Proofs.Ytcgblbbadbkdgaa.lawTreeDeep
