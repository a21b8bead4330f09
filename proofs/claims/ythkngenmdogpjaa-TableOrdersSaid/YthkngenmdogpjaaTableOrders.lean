/-
  In whatever order cells are published, once all are there All is the same; until then it tells nothing: for every input, no conditions.
-/
import Derived.Test.YthkngenmdogpjaaWorks3
import Derived.Test.YthkngenmdogpjaaOrder3
import Derived.Test.YthkngenmdogpjaaLawCore
import Derived.Deep.DeepCutAuto
import Derived.Deep.RegionHeld3
import Derived.ProofKit
import Derived.OpenShut
import Derived.BigGuard
namespace Go.Proofs.Ythkngenmdogpjaa.lawTableOrders
open Go.ChangeShapes Go.WideShapes Go.ChangeAt Go.RowKit Go.Proofs.Ythkngenmdogpjaa
set_option linter.unusedVariables false

theorem own : ownKnob Try.prog.godebug = none := by kernel_rfl

set_option maxRecDepth 200000 in
theorem great_ (W : World) (A B : Option Addr) (n c m d : Nat) (hn : 200 < n ∨ (n ≤ 200 ∧ 400 < m)) (h1 : n ≤ maxLen) (h2 : m ≤ maxLen) :
    Calls Try.prog 5 #[.slice A n c, .slice B m d] W fun e w' => e = .returned (.bool true) ∧ Below W.heap.size W w' := by
  unfold maxLen at h1 h2
  rcases hn with hn | ⟨hn, hn2⟩
  all_goals
    go_enter Try.func5, Try.ntmps5
    go_wp2_with fail
    refine (works3_any _).mono ?_; rintro e w' ⟨rfl, hq⟩
    go_wp2_with fail
    go_ret
    exact ⟨rfl, hq⟩

set_option maxRecDepth 200000 in
set_option maxHeartbeats 6400000 in
theorem small_ (W : World) (A B : Option Addr) (n c m d : Nat) (l : List Pair) (by_ : List Int) (h : Hid (Sl pairE W A n c l)) (hb : Hid (Sl u16E W B m d by_)) (hu : Hid (∀ r ∈ by_, U16 r)) (hn : n ≤ 200) (hm : m ≤ 400) :
    Calls Try.prog 5 #[.slice A n c, .slice B m d] W fun e w' => e = .returned (.bool true) ∧ Below W.heap.size W w' := by
  have hmk := fun w => make_row (P := Try.prog) 47 3 (.int .i64 0) 1 8 Try.underlying47 (by kernel_rfl) (by decide) n n _ _ rfl rfl (Nat.le_refl _) (by omega) w
  simp only [Nat.mul_one] at hmk
  have s0 : Hid (Ord W (W.alloc (madeObj (.int .i64 0) n 3)) W.heap.size (upTo n 0)) := Lib.hid ⟨by rw [upTo_zero]; exact IBox.made W n 0 _, (Below.refl _ _).alloc (Nat.le_refl _) _, Nat.le_refl _⟩
  go_enter Try.func5, Try.ntmps5
  go_wp2_with fail
  clear hmk
  generalize hob : W.heap.size = ob at s0 ⊢
  have hob := Lib.hid hob
  go_loopw [6] (fun i wr => ∃ k : Nat, k ≤ n ∧ i = .int .i64 k ∧ Hid (Ord W wr ob (upTo n k))) (fun i _ => n - (intOf i).toNat)
  case atStart => exact ⟨0, Nat.zero_le _, rfl, s0⟩
  case round =>
    clear s0
    obtain ⟨k, hk, rfl, hs⟩ := hrel
    by_cases hlt : k < n
    · have i1 : (0 : Int) ≤ (k : Int) := by omega
      have i2 : (k : Int) < (n : Int) := by omega
      obtain ⟨u, cu⟩ : ∃ u, wr.cell? ⟨ob, k, none⟩ = some u := ⟨_, hs.out.box.at_ (List.getElem?_eq_getElem (by rw [upTo_len]; exact hlt))⟩
      have fu := hs.out.box.free_ (i := k) (by rw [upTo_len]; exact hlt)
      have hnx : Hid (Ord W (wr.setCell ⟨ob, k, none⟩ (.int .i64 k)) ob (upTo n (k + 1))) := Lib.hid (by
        rw [← upTo_set]
        exact hs.out.mark (by rw [upTo_len]; exact hlt) _)
      go_wp2_with fail
      go_roundw
      case rel => exact ⟨k + 1, by omega, by go_num, hnx⟩
      case measure => simp [intOf]; omega
    · obtain rfl : n = k := by omega
      have s1 : Hid (∃ F, Ord W wr ob F ∧ OrdOk n F) := Lib.hid ⟨_, hs.out, by rw [upTo_all]; exact List.Perm.refl _⟩
      clear hs hlt
      go_wp2_with fail
      go_loopw [7] (fun i wr => ∃ k : Nat, k ≤ m + 1 ∧ i = .int .i64 k ∧ Hid (∃ F, Ord W wr ob F ∧ OrdOk n F)) (fun i _ => m + 1 - (intOf i).toNat)
      case atStart => exact ⟨0, Nat.zero_le _, rfl, s1⟩
      case round =>
        clear s1
        obtain ⟨k, hk, rfl, hs⟩ := hrel
        obtain ⟨F, hO, hF⟩ := hs.out
        have hO := Lib.hid hO
        have hF := Lib.hid hF
        clear hs
        by_cases hc : k + 1 < m ∧ 0 < n
        · obtain ⟨hc1, hc2⟩ := hc
          obtain ⟨z1, hz1⟩ : ∃ z, by_[k]? = some z := ⟨_, List.getElem?_eq_getElem (by rw [← hb.out.len]; omega)⟩
          obtain ⟨z2, hz2⟩ : ∃ z, by_[k + 1]? = some z := ⟨_, List.getElem?_eq_getElem (by rw [← hb.out.len]; omega)⟩
          obtain ⟨a, ea, _, c1⟩ := (hb.out.at_.keep hO.out.bl).get u16E_len hz1
          obtain ⟨a', ea', _, c2⟩ := (hb.out.at_.keep hO.out.bl).get u16E_len hz2
          obtain rfl : a = a' := Option.some.inj (ea.symm.trans ea')
          clear ea'
          subst ea
          have c1 := c1 0 _ rfl
          have c2 := c2 0 _ rfl
          simp only [Nat.mul_one, Nat.add_zero] at c1 c2
          have c2 : wr.cell? ⟨a.block, a.off + (k + 1), none⟩ = some (.int .u16 z2) := by simpa [Addr.add] using c2
          obtain ⟨u1, u2⟩ := hu.out z1 (List.mem_of_getElem? hz1)
          obtain ⟨v1, v2⟩ := hu.out z2 (List.mem_of_getElem? hz2)
          clear hz1 hz2
          obtain ⟨i, hi, hin⟩ : ∃ i : Nat, z1.tmod (n : Int) = i ∧ i < n := by
            have h1 := Int.tmod_nonneg (n : Int) u1
            have h2 := Int.tmod_lt_of_pos z1 (show (0 : Int) < n by omega)
            exact ⟨(z1.tmod n).toNat, by omega, by omega⟩
          obtain ⟨j, hj, hjn⟩ : ∃ j : Nat, z2.tmod (n : Int) = j ∧ j < n := by
            have h1 := Int.tmod_nonneg (n : Int) v1
            have h2 := Int.tmod_lt_of_pos z2 (show (0 : Int) < n by omega)
            exact ⟨(z2.tmod n).toNat, by omega, by omega⟩
          have j1 : (0 : Int) ≤ (k : Int) := by omega
          have j2 : (k : Int) + 1 < (m : Int) := by omega
          have j3 : (0 : Int) < (n : Int) := by omega
          have j4 : (i : Int) < (n : Int) := by omega
          have j5 : (j : Int) < (n : Int) := by omega
          go_wp2_with fail
          clear c1 c2 hi hj u1 u2 v1 v2
          obtain ⟨fi, hfi, _⟩ := hF.out.at_ hin
          obtain ⟨fj, hfj, _⟩ := hF.out.at_ hjn
          have d1 := hO.out.box.at_ hfi
          have d2 := hO.out.box.at_ hfj
          have e1 := hO.out.box.free_ (i := i) (by rw [hF.out.len]; exact hin)
          have e2 := hO.out.box.free_ (i := j) (by rw [hF.out.len]; exact hjn)
          have hO1 := hO.out.mark (i := i) (by rw [hF.out.len]; exact hin) (fj : Int)
          obtain ⟨v', d3⟩ : ∃ v', (wr.setCell ⟨ob, i, none⟩ (.int .i64 fj)).cell? ⟨ob, j, none⟩ = some v' := ⟨_, hO1.box.at_ (List.getElem?_eq_getElem (by simp; rw [hF.out.len]; exact hjn))⟩
          have hnx : Hid (∃ F, Ord W ((wr.setCell ⟨ob, i, none⟩ (.int .i64 fj)).setCell ⟨ob, j, none⟩ (.int .i64 fi)).drew ob F ∧ OrdOk n F) := Lib.hid ⟨_, (hO1.mark (i := j) (by simp; rw [hF.out.len]; exact hjn) (fi : Int)).drew, hF.out.swap hfi hfj⟩
          clear hO1 hfi hfj
          have i3 : (0 : Int) ≤ (i : Int) := by omega
          have i4 : (0 : Int) ≤ (j : Int) := by omega
          go_region
          go_wp2_with fail
          go_roundw
          case rel => exact ⟨k + 2, by omega, by go_num, hnx⟩
          case measure => simp [intOf]; omega
        · have hc2 : decide ((k : Int) + 1 < (m : Int)) = false ∨ ((k : Int) + 1 < (m : Int) ∧ decide (0 < n) = false) := by
            simp only [decide_eq_false_iff_not]; omega
          clear hc hu hb
          rcases hc2 with j1 | ⟨j1, j2⟩
          all_goals
            go_wp2_with fail
            clear j1
            refine (newP_h n (by omega) wr).mono ?_; rintro e w2 ⟨tb, cb, vb, rfl, hN⟩
            have s2 : Hid (∃ T, St W w2 tb cb vb ob T F ∧ PutInv n l F 0 T) := Lib.hid ⟨_, hO.out.new hN, PutInv.start l hF.out⟩
            clear hN hO
            go_wp2_with fail
            go_loopw [12] (fun i wr => ∃ q : Nat, q ≤ n ∧ i = .int .i64 q ∧ Hid (∃ T, St W wr tb cb vb ob T F ∧ PutInv n l F q T)) (fun i _ => n - (intOf i).toNat)
            case atStart => exact ⟨0, Nat.zero_le _, rfl, s2⟩
            case round =>
              clear s2
              obtain ⟨q, hq, rfl, hs⟩ := hrel
              obtain ⟨T, hst, hp⟩ := hs.out
              have hst := Lib.hid hst
              have hp := Lib.hid hp
              clear hs
              have hTl : Hid (T.length ≤ 65536) := Lib.hid (by rw [hp.out.lenT]; omega)
              by_cases hlt : q < n
              · have i1 : (0 : Int) ≤ (q : Int) := by omega
                have i2 : (q : Int) < (n : Int) := by omega
                obtain ⟨p, hFp, hpn⟩ := hF.out.at_ hlt
                obtain ⟨x, hx⟩ : ∃ x, l[p]? = some x := ⟨_, List.getElem?_eq_getElem (by rw [← h.out.len]; exact hpn)⟩
                have hnew := Lib.hid (hp.out.new q p (Nat.le_refl _) hFp)
                have i3 : (0 : Int) ≤ (p : Int) := by omega
                have i4 : (p : Int) < (n : Int) := by omega
                have hp2 := Lib.hid (hp.out.put hF.out hFp hx)
                have ka := allP_no tb cb vb T wr (Lib.hid hst.out.tab) hTl.out (by have := hp.out.cnt; omega)
                go_wp2_with (go_at_call 18; refine ka.mono ?_; rintro e w' ⟨rfl, rfl⟩)
                clear ka
                have hstd : Hid (St W wr.drew tb cb vb ob T F) := Lib.hid (hst.out.below (Below.refl _ _).drew)
                obtain ⟨a, ea, _, a1, a2⟩ := (h.out.at_.keep hstd.out.bl).pair hx
                subst ea
                have c1 := hstd.out.fst.at_ hFp
                have hFp := Lib.hid hFp
                have hx := Lib.hid hx
                go_region_held3 (fun w' => w'.cell? ⟨ob, q, none⟩ = some (.int .i64 p) ∧ w'.cell? (a.add (p * 2)) = some (.int .i64 x.a) ∧ w'.cell? ⟨(a.add (p * 2)).block, (a.add (p * 2)).off + 1, none⟩ = some (.string x.b))
                  (first | exact ⟨c1, a1, a2⟩ | exact ⟨d1, b1, b2⟩)
                  (first | (go_at_call 11; refine (putP_yes tb cb vb T p x _ (Lib.hid hstd.out.tab) hnew (Lib.hid (List.getElem?_eq_some_iff.1 hnew.out).1)).mono ?_; rintro e w3 ⟨rfl, hT, hb⟩; have hst2 := Lib.hid (hstd.out.put hT hb); have d1 := hst2.out.fst.at_ hFp.out; obtain ⟨a', ea', _, b1, b2⟩ := (h.out.at_.keep hst2.out.bl).pair hx.out; obtain rfl := Option.some.inj ea'))
                go_wp2_with fail
                go_roundw
                case rel => exact ⟨q + 1, by omega, by go_num, Lib.hid ⟨_, hst2.out, hp2.out⟩⟩
                case measure => simp [intOf]; omega
              · obtain rfl : n = q := by omega
                obtain ⟨h0, hV⟩ := hp.out.fin (h.out.len).symm
                have ka := allP_yes tb cb vb T wr (Lib.hid hst.out.tab) hTl.out h0
                have hV := Lib.hid hV
                have h0 := Lib.hid h0
                have hlT := Lib.hid hp.out.lenT
                rw [hV.out, hlT.out] at ka
                go_wp2_with fail
                refine ka.mono ?_; rintro e w3 ⟨E, cc, rfl, hS, hb3, -, -⟩
                clear ka
                have hst := Lib.hid (hst.out.below hb3)
                have ks := same_h E A n cc n c l w3 (Lib.hid hS) (Lib.hid (by have := h.out; exact this.keep_ hst.out.bl)) (by omega)
                go_wp2_with (first | (go_at_call 20; refine ks.mono ?_; rintro e w4 ⟨rfl, hb4⟩; have hst4 := Lib.hid (hst.out.below hb4); have kl := leftP_h tb cb vb T w4 (Lib.hid hst4.out.tab) hTl.out; rw [h0.out] at kl; clear hb4) | (go_at_call 15; refine kl.mono ?_; rintro e w' ⟨rfl, rfl⟩) | (go_at_call 8; refine (works3_any _).mono ?_; rintro e w5 ⟨rfl, hq⟩; have hfin := Lib.hid (hst4.out.bl.trans (hq.mono hst4.out.bl.size)); clear hq))
                go_ret
                exact ⟨rfl, hfin.out⟩

theorem walk (W : World) (A : Option Addr) (n c : Nat) (l : List Pair) (m0 : c ≤ maxLen) (s0 : Sl pairE W A n c l) (_o0 : ∀ r ∈ l, PairOk r) (B : Option Addr) (m d : Nat) (by_ : List Int) (m1 : d ≤ maxLen) (s1 : Sl u16E W B m d by_) (o1 : ∀ r ∈ by_, U16 r) :
    Calls Try.prog 5 #[.slice A n c, .slice B m d] W fun e w' => e = .returned (.bool true) ∧ Below W.heap.size W w' := by
  by_cases hn : n ≤ 200 ∧ m ≤ 400
  · exact small_ W A B n c m d l by_ (Lib.hid s0) (Lib.hid s1) (Lib.hid o1) hn.1 hn.2
  · exact great_ W A B n c m d (by omega) (Nat.le_trans s0.cap m0) (Nat.le_trans s1.cap m1)

set_option maxRecDepth 100000 in
theorem lifted (os : Os) (started : os.Started) (H : Type) (enc : TypeId × Value → H) :
    ReturnsInHanded {} Try.checked os 5 .any (Rows.tableOrdersSpec.pre6 enc Try.prog Try.f5 Rows.tableOrdersRow.domain false) (Rows.tableOrdersSpec.post enc Try.prog Try.f5 false true false false) := by
  refine returnsInHanded_of_change (C := Try.checked) own started (by kernel_rfl) Try.func5
    (ChangeSpec.witness6 (enc := enc) (C := Try.checked) false ⟨#[], #[.slice none 0 0, .slice none 0 0], []⟩ 5 (by kernel_rfl) (by kernel_rfl) (by kernel_rfl) (by kernel_rfl)) ?_
  intro W base args ds gs before hval0 hW hcnd _
  have hval : ∀ (j : Nat) t v, Try.f5.params[j]? = some t → args[j]? = some v → Value.okWide Try.prog W .any base t v := hval0
  have hW' := hW
  obtain ⟨p, q, hA0, hV, rfl, hfz, hnd⟩ := hW
  have hA : DataW.TrodAll enc Try.prog W 0 (fun _ => true) true Try.f5.params.toList args.toList ds p := hA0
  rw [Try.params5] at hA hval
  obtain ⟨v0, vs0, d0, ds0, p0, q0, hargs, rfl, rfl, h0, r0⟩ := trodAll_cons hA
  obtain ⟨v1, vs1, d1, ds1, p1, q1, rfl, rfl, rfl, h1, r1⟩ := trodAll_cons r0
  obtain ⟨rfl, rfl, rfl⟩ := trodAll_nil r1
  obtain rfl : args = #[v0, v1] := by cases args; simp_all
  obtain ⟨rfl, rfl⟩ := trodVars_none hV
  obtain ⟨A0, n0, c0, l0, rfl, m0, s0, o0⟩ := view_pairs (hval 0 43 v0 rfl rfl) h0
  obtain ⟨A1, n1, c1, l1, rfl, m1, s1, o1⟩ := view_u16s (hval 1 49 v1 rfl rfl) h1
  refine (walk W A0 n0 c0 l0 m0 s0 o0 A1 n1 c1 l1 m1 s1 o1).mono fun e W' ⟨he, hg⟩ => ?_
  subst he
  exact ⟨_, rfl, law_post laidOut (by kernel_rfl) rfl Try.underlying4 rfl hW' rfl rfl rfl hg⟩

theorem over : Rows.tableOrdersRow.holds Try.pinned (OpenSpec.ofChange Rows.tableOrdersSpec) :=
  OpenClaim.holds_of_wide 5 Try.f5 rfl rfl rfl rfl rfl rfl rfl ⟨rfl, rfl, rfl, rfl, rfl⟩ rfl rfl rfl rfl rfl (by kernel_rfl) Try.func5 (by kernel_rfl)
    (of_decide_eq_true (by kernel_rfl)) (by unfold Func.isWrapper; first | (rw [if_pos (by decide +kernel)]; kernel_rfl) | (rw [if_neg (by decide +kernel)]; exact ⟨rfl, rfl⟩))
    (fun os started H enc _ => lifted os started H enc)

/-- The statement. -/
theorem proved : Rows.TableOrdersSaid := over
#print axioms proved
end Go.Proofs.Ythkngenmdogpjaa.lawTableOrders
