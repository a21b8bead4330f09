/-
  What was published first stays a cell's value; one is left less for each Put that is answered OK: for every input, no conditions.
-/
import Derived.Test.YthkngenmdogpjaaWorks3
import Derived.Test.YthkngenmdogpjaaPlay
import Derived.Test.YthkngenmdogpjaaLawCore
import Derived.ProofKit
import Derived.OpenShut
import Derived.BigGuard
import Derived.Deep.QuietTactic
import Derived.BigQuiet
namespace Go.Proofs.Ythkngenmdogpjaa.lawTableStays
open Go.ChangeShapes Go.WideShapes Go.ChangeAt Go.RowKit Go.Proofs.Ythkngenmdogpjaa
set_option linter.unusedVariables false

theorem own : ownKnob Try.prog.godebug = none := by kernel_rfl

set_option maxRecDepth 200000 in
theorem great_ (W : World) (a0 : Int) (A : Option Addr) (n c : Nat) (hn : 300 < n) (hm : n ≤ maxLen) :
    Calls Try.prog 4 #[.int .u8 a0, .slice A n c] W fun e w' => e = .returned (.bool true) ∧ Below W.heap.size W w' := by
  unfold maxLen at hm
  go_enter Try.func4, Try.ntmps4
  go_wp2_with fail
  refine (works3_any _).mono ?_; rintro e w' ⟨rfl, hq⟩
  go_wp2_with fail
  go_ret
  exact ⟨rfl, hq⟩

theorem stay_start {W w1 : World} {n tb cb vb : Nat} (h : NewInv pairE pair0 W n n tb cb vb w1) (e : TypeId) :
    St W (w1.alloc (madeObj (.int .i64 0) n e)) tb cb vb w1.heap.size (List.replicate n none) (rif n 0 (-1) 0) := by
  have hT := h.done
  rw [rif_zero]
  have := hT.head.lt
  have := hT.cells.lt
  have := hT.vals.lt
  exact ⟨hT.below ((Below.refl _ _).alloc (Nat.le_refl _) _), IBox.made w1 n 0 e, h.bl.alloc h.bl.size _, h.t0, h.c0, h.v0, h.bl.size, by omega, by omega, by omega⟩

set_option maxRecDepth 200000 in
set_option maxHeartbeats 6400000 in
theorem small_ (W : World) (n : Nat) (A : Option Addr) (m c : Nat) (l : List TOp) (hn : n ≤ 255) (h : Hid (Sl opE W A m c l)) (hm : m ≤ 300) :
    Calls Try.prog 4 #[.int .u8 n, .slice A m c] W fun e w' => e = .returned (.bool true) ∧ Below W.heap.size W w' := by
  have hmk := fun w => make_row (P := Try.prog) 47 3 (.int .i64 0) 1 8 Try.underlying47 (by kernel_rfl) (by decide) n n _ _ rfl rfl (Nat.le_refl _) (by omega) w
  simp only [Nat.mul_one] at hmk
  go_enter Try.func4, Try.ntmps4
  go_wp2_with fail
  refine (newP_h n (by omega) W).mono ?_; rintro e w1 ⟨tb, cb, vb, rfl, hN⟩
  have s0 := Lib.hid (stay_start hN 3)
  clear hN
  go_wp2_with fail
  clear hmk
  generalize w1.heap.size = fb at *
  go_loopw [8] (fun i wr => ∃ k : Nat, k ≤ n ∧ i = .int .i64 k ∧ Hid (St W wr tb cb vb fb (List.replicate n none) (rif n k (-1) 0))) (fun i _ => n - (intOf i).toNat)
  case atStart => exact ⟨0, Nat.zero_le _, rfl, s0⟩
  case round =>
    clear s0
    obtain ⟨k, hk, rfl, hs⟩ := hrel
    by_cases hlt : k < n
    · have i1 : (0 : Int) ≤ (k : Int) := by omega
      have i2 : (k : Int) < (n : Int) := by omega
      obtain ⟨u, cu⟩ : ∃ u, wr.cell? ⟨fb, k, none⟩ = some u := ⟨_, hs.out.fst.at_ (List.getElem?_eq_getElem (by simpa [rif] using hlt))⟩
      have fu := hs.out.fst.free_ (i := k) (by simpa [rif] using hlt)
      have hnx : Hid (St W (wr.setCell ⟨fb, k, none⟩ (.int .i64 (-1))) tb cb vb fb (List.replicate n none) (rif n (k + 1) (-1) 0)) := Lib.hid (by
        rw [← rif_set (-1) 0]
        exact hs.out.mark (by simpa [rif] using hlt) _)
      go_wp2_with fail
      go_roundw
      case rel => exact ⟨k + 1, by omega, by go_num, hnx⟩
      case measure => simp [intOf]; omega
    · have e : k = n := by omega
      subst e
      go_wp2_with fail
      have s1 : Hid (∃ F, St W wr tb cb vb fb (List.replicate k none) F ∧ First l k (List.replicate k none) F) := Lib.hid ⟨_, hs.out, by rw [rif_all]; exact First.start l k⟩
      have hl0 : Hid (leftN (List.replicate k (none : Option Pair)) = k) := Lib.hid (by simp [leftN, leftOf])
      clear hs hk hlt
      generalize hT0 : List.replicate k (none : Option Pair) = T0 at *
      go_loopw [9, 10] (fun q i wr => ∃ (j : Nat) (T : List (Option Pair)), j ≤ m ∧ i = .int .i64 j ∧ q = .int .i64 (leftN T) ∧ Hid (∃ F, St W wr tb cb vb fb T F ∧ First l k T F)) (fun _ i _ => m - (intOf i).toNat)
      case atStart => exact ⟨0, T0, Nat.zero_le _, rfl, by rw [hl0.out], s1⟩
      case round =>
        clear s1 hl0 hT0
        obtain ⟨j, T, hj, rfl, rfl, hs⟩ := hrel
        obtain ⟨F, hst, hf⟩ := hs.out
        clear hs
        have hst := Lib.hid hst
        have hf := Lib.hid hf
        by_cases hlt : j < m
        · obtain ⟨⟨pt, oi, ov⟩, hx⟩ : ∃ x, l[j]? = some x := ⟨_, List.getElem?_eq_getElem (by rw [← h.out.len]; exact hlt)⟩
          obtain ⟨a, ea, _, _, a1, a2, a3⟩ := (h.out.at_.keep hst.out.bl).op hx
          subst ea
          have hx := Lib.hid hx
          have i1 : (0 : Int) ≤ (j : Int) := by omega
          have i2 : (j : Int) < (m : Int) := by omega
          have hlen := hf.out.lenT
          have kb := Lib.hid (leftN_le T)
          rcases slot_cases T oi with ⟨e, hi⟩ | ⟨q, o, rfl, hq, e, hql⟩
          · have kp := fun w h => putP_no tb cb vb T oi ov w h (.inl e)
            rw [e] at kp
            simp only [putE] at kp
            rw [hlen] at hi
            have hi2 : decide (0 ≤ oi) = false ∨ (decide (0 ≤ oi) = true ∧ decide (oi < (k : Int)) = false) := by
              simp only [decide_eq_false_iff_not, decide_eq_true_eq]; omega
            clear e hi hlen
            go_wp2_with fail
            refine (kp wr (Lib.hid hst.out.tab)).mono ?_; rintro e w2 ⟨rfl, hb⟩
            have hst := Lib.hid (hst.out.below hb)
            have kl := leftP_h tb cb vb T w2 (Lib.hid hst.out.tab) (by rw [hf.out.lenT]; omega)
            clear hb kp a1 a2 a3
            rcases hi2 with i3 | ⟨i3, i4⟩
            all_goals
              go_wp2_with (go_at_call 15; refine kl.mono ?_; rintro e w' ⟨rfl, rfl⟩)
              go_roundw
              case rel => exact ⟨j + 1, T, by omega, by go_num, rfl, Lib.hid ⟨F, hst.out, hf.out⟩⟩
              case measure => simp [intOf]; omega
          · rw [hlen] at hql
            have i3 : (0 : Int) ≤ (q : Int) := by omega
            have i4 : (q : Int) < (k : Int) := by omega
            cases o with
            | some y =>
              obtain ⟨i, _, _, hF, _⟩ := hf.out.some_ hq
              have kp := fun w h => putP_no tb cb vb T q ov w h (.inr ⟨y, e⟩)
              rw [e] at kp
              simp only [putE] at kp
              go_wp2_with fail
              refine (kp wr (Lib.hid hst.out.tab)).mono ?_; rintro e w2 ⟨rfl, hb⟩
              have hst := Lib.hid (hst.out.below hb)
              have kl := leftP_h tb cb vb T w2 (Lib.hid hst.out.tab) (by rw [hf.out.lenT]; omega)
              have cF := hst.out.fst.at_ hF
              have i5 : ¬ (i : Int) < 0 := by omega
              clear hb kp a1 a2 a3 e hq hql hlen hF
              go_wp2_with (go_at_call 15; refine kl.mono ?_; rintro e w' ⟨rfl, rfl⟩)
              go_roundw
              case rel => exact ⟨j + 1, T, by omega, by go_num, rfl, Lib.hid ⟨F, hst.out, hf.out⟩⟩
              case measure => simp [intOf]; omega
            | none =>
              have hF := hf.out.none_ hq
              have kp := fun w h => putP_yes tb cb vb T q ov w h (Lib.hid hq) (Lib.hid (by omega))
              obtain ⟨L, hL⟩ : ∃ L, Hid (leftN (T.set q (some ov)) = L ∧ leftN T = L + 1) := ⟨_, Lib.hid ⟨rfl, (leftN_set hq).symm⟩⟩
              have hLb : L ≤ 254 := by have h1 := kb.out; have h2 := hL.out.2; omega
              go_wp2_with fail
              refine (kp wr (Lib.hid hst.out.tab)).mono ?_; rintro e w2 ⟨rfl, hT, hb⟩
              have hst := Lib.hid (hst.out.put hT hb)
              have cF := hst.out.fst.at_ hF
              have fF := hst.out.fst.free_ (i := q) (by rw [hf.out.lenF]; exact hql)
              have hst2 := Lib.hid (hst.out.mark (i := q) (by rw [hf.out.lenF]; exact hql) (j : Int))
              have hf2 := Lib.hid (hf.out.put hql hx.out)
              have hlen2 := Lib.hid hf2.out.lenT
              clear hb kp a1 a2 a3 e hq hql hlen hF hT
              have kl := leftP_h tb cb vb (T.set q (some ov)) _ (Lib.hid hst2.out.tab) (by rw [hlen2.out]; omega)
              rw [hL.out.1] at kl
              rw [show ((leftN T : Nat) : Int) = (L : Int) + 1 by rw [hL.out.2]; rfl]
              go_wp2_with (go_at_call 15; refine kl.mono ?_; rintro e w' ⟨rfl, rfl⟩)
              go_roundw
              case rel => exact ⟨j + 1, T.set q (some ov), by omega, by go_num, by rw [hL.out.1], Lib.hid ⟨_, hst2.out, hf2.out⟩⟩
              case measure => simp [intOf]; omega
        · obtain rfl : m = j := by omega
          go_wp2_with fail
          have hst := Lib.hid hst.out
          clear hlt hj
          go_loopw [13] (fun i wr => ∃ p : Nat, p ≤ k ∧ i = .int .i64 p ∧ Hid (St W wr tb cb vb fb T F)) (fun i _ => k - (intOf i).toNat)
          case atStart => exact ⟨0, Nat.zero_le _, rfl, hst⟩
          case round =>
            clear hst
            obtain ⟨p, hp, rfl, hst⟩ := hrel
            by_cases hlt : p < k
            · have i1 : (0 : Int) ≤ (p : Int) := by omega
              have i2 : (p : Int) < (k : Int) := by omega
              obtain ⟨o, ho⟩ : ∃ o, T[p]? = some o := ⟨_, List.getElem?_eq_getElem (by rw [hf.out.lenT]; exact hlt)⟩
              have kg := getP_h tb cb vb T p _ (Lib.hid hst.out.tab)
              rw [slot_nat, ho] at kg
              cases o with
              | none =>
                simp only [Option.join_some, Option.getD_none, getE] at kg
                have hF := hf.out.none_ ho
                clear ho
                go_wp2_with fail
                refine kg.mono ?_; rintro e w2 ⟨rfl, hb⟩
                have hst := Lib.hid (hst.out.below hb)
                clear kg hb
                go_wp2_with fail
                generalize hW : World.alloc w2 _ = W3
                have hst : Hid (St W W3 tb cb vb fb T F) := Lib.hid (by subst hW; exact hst.out.below ((Below.refl _ _).alloc (Nat.le_refl _) _))
                clear hW
                have cF := hst.out.fst.at_ hF
                clear hF
                go_quiet (fail)
                have hst : Hid (St W (W3.drewN nq) tb cb vb fb T F) := Lib.hid (hst.out.below (bl_drewN (Below.refl _ _) nq))
                clear cF
                go_wp2_with fail
                go_roundw
                case rel => exact ⟨p + 1, by omega, by go_num, hst⟩
                case measure => simp [intOf]; omega
              | some y =>
                simp only [Option.join_some, Option.getD_some, getE] at kg
                obtain ⟨i, ox, hi, hF, rfl⟩ := hf.out.some_ ho
                have hil : i < m := by
                  have h1 := (List.getElem?_eq_some_iff.1 hi).1
                  have h2 := h.out.len
                  omega
                clear ho
                go_wp2_with fail
                refine kg.mono ?_; rintro e w2 ⟨rfl, hb⟩
                have hst := Lib.hid (hst.out.below hb)
                clear kg hb
                go_wp2_with fail
                generalize hW : World.alloc w2 _ = W3
                obtain ⟨hst, hX⟩ : Hid (St W W3 tb cb vb fb T F) ∧ Box W3 w2.heap.size [.int .i64 ox.v.a, .string ox.v.b] := by
                  subst hW
                  exact ⟨Lib.hid (hst.out.below ((Below.refl _ _).alloc (Nat.le_refl _) _)), Box.new w2 [_, _] _⟩
                clear hW
                have cF := hst.out.fst.at_ hF
                obtain ⟨a, ea, _, _, _, a2, a3⟩ := (h.out.at_.keep hst.out.bl).op hi
                subst ea
                have q0 := hX.cell 0 _ rfl
                have q1 := hX.cell 1 _ rfl
                have heq := pair_eq ox.v.a ox.v.b
                have i3 : (0 : Int) ≤ (i : Int) := by omega
                have i4 : (i : Int) < (m : Int) := by omega
                have i5 : ¬ (i : Int) < 0 := by omega
                clear hF hX
                go_quiet (fail)
                have hst : Hid (St W (W3.drewN nq) tb cb vb fb T F) := Lib.hid (hst.out.below (bl_drewN (Below.refl _ _) nq))
                clear cF a2 a3 q0 q1
                go_wp2_with fail
                go_roundw
                case rel => exact ⟨p + 1, by omega, by go_num, hst⟩
                case measure => simp [intOf]; omega
            · have e : p = k := by omega
              subst e
              go_wp2_with fail
              refine (works3_any _).mono ?_; rintro e w' ⟨rfl, hq⟩
              have hfin := Lib.hid (hst.out.bl.trans (hq.mono hst.out.bl.size))
              clear hq
              go_wp2_with fail
              go_ret
              exact ⟨rfl, hfin.out⟩

theorem walk (W : World) (a0 : Int) (w0 : (Lit.int .u8 a0).wf = true) (A : Option Addr) (n c : Nat) (l : List TOp) (m1 : c ≤ maxLen) (s1 : Sl opE W A n c l) (_o1 : ∀ r ∈ l, OpOk r) :
    Calls Try.prog 4 #[.int .u8 a0, .slice A n c] W fun e w' => e = .returned (.bool true) ∧ Below W.heap.size W w' := by
  by_cases hn : n ≤ 300
  · have hb := bounds_u8 w0
    obtain ⟨k, rfl⟩ := Int.eq_ofNat_of_zero_le hb.1
    exact small_ W k A n c l (by omega) (Lib.hid s1) hn
  · exact great_ W a0 A n c (by omega) (Nat.le_trans s1.cap m1)

set_option maxRecDepth 100000 in
theorem lifted (os : Os) (started : os.Started) (H : Type) (enc : TypeId × Value → H) :
    ReturnsInHanded {} Try.checked os 4 .any (Rows.tableStaysSpec.pre6 enc Try.prog Try.f4 Rows.tableStaysRow.domain false) (Rows.tableStaysSpec.post enc Try.prog Try.f4 false true false false) := by
  refine returnsInHanded_of_change (C := Try.checked) own started (by kernel_rfl) Try.func4
    (ChangeSpec.witness6 (enc := enc) (C := Try.checked) false ⟨#[], #[.int .u8 0, .slice none 0 0], []⟩ 4 (by kernel_rfl) (by kernel_rfl) (by kernel_rfl) (by kernel_rfl)) ?_
  intro W base args ds gs before hval0 hW hcnd _
  have hval : ∀ (j : Nat) t v, Try.f4.params[j]? = some t → args[j]? = some v → Value.okWide Try.prog W .any base t v := hval0
  have hW' := hW
  obtain ⟨p, q, hA0, hV, rfl, hfz, hnd⟩ := hW
  have hA : DataW.TrodAll enc Try.prog W 0 (fun _ => true) true Try.f4.params.toList args.toList ds p := hA0
  rw [Try.params4] at hA hval
  obtain ⟨v0, vs0, d0, ds0, p0, q0, hargs, rfl, rfl, h0, r0⟩ := trodAll_cons hA
  obtain ⟨v1, vs1, d1, ds1, p1, q1, rfl, rfl, rfl, h1, r1⟩ := trodAll_cons r0
  obtain ⟨rfl, rfl, rfl⟩ := trodAll_nil r1
  obtain rfl : args = #[v0, v1] := by cases args; simp_all
  obtain ⟨rfl, rfl⟩ := trodVars_none hV
  obtain ⟨a0, rfl, -, -, w0⟩ := open_int Try.underlying5 (hval 0 5 v0 rfl rfl) h0
  obtain ⟨A1, n1, c1, l1, rfl, m1, s1, o1⟩ := view_ops (hval 1 22 v1 rfl rfl) h1
  refine (walk W a0 w0 A1 n1 c1 l1 m1 s1 o1).mono fun e W' ⟨he, hg⟩ => ?_
  subst he
  exact ⟨_, rfl, law_post laidOut (by kernel_rfl) rfl Try.underlying4 rfl hW' rfl rfl rfl hg⟩

theorem over : Rows.tableStaysRow.holds Try.pinned (OpenSpec.ofChange Rows.tableStaysSpec) :=
  OpenClaim.holds_of_wide 4 Try.f4 rfl rfl rfl rfl rfl rfl rfl ⟨rfl, rfl, rfl, rfl, rfl⟩ rfl rfl rfl rfl rfl (by kernel_rfl) Try.func4 (by kernel_rfl)
    (of_decide_eq_true (by kernel_rfl)) (by unfold Func.isWrapper; first | (rw [if_pos (by decide +kernel)]; kernel_rfl) | (rw [if_neg (by decide +kernel)]; exact ⟨rfl, rfl⟩))
    (fun os started H enc _ => lifted os started H enc)

/-- The statement. -/
theorem proved : Rows.TableStaysSaid := over
#print axioms proved
end Go.Proofs.Ythkngenmdogpjaa.lawTableStays
