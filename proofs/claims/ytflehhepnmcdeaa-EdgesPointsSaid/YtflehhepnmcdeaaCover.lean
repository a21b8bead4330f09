/-
  Contract of package edges: Cover: the least rectangle around those that have points, cut; nothing below changes.
-/
import Derived.Test.YtflehhepnmcdeaaCoverMath
import Derived.Deep.QuietTactic
import Derived.BigQuiet
namespace Go.Proofs.Ytflehhepnmcdeaa
open Go.RowKit

theorem coverX_ok {fs : List Four} {x0 : Four} (h : fs[0]? = some x0) (hok : ∀ r ∈ fs, FourOk r ∧ somePts r = true) : I64 (coverX fs) := by
  obtain ⟨r, hr, e⟩ := leastI_mem (·.a) (l := fs) (by rintro rfl; simp at h)
  unfold coverX; rw [e]; exact (hok r hr).1.x
theorem coverY_ok {fs : List Four} {x0 : Four} (h : fs[0]? = some x0) (hok : ∀ r ∈ fs, FourOk r ∧ somePts r = true) : I64 (coverY fs) := by
  obtain ⟨r, hr, e⟩ := leastI_mem (·.b) (l := fs) (by rintro rfl; simp at h)
  unfold coverY; rw [e]; exact (hok r hr).1.y

/-- What a cover's second loop keeps: the answer so far in block g, and in the next one what was beyond. -/
structure C2 (w w1 : World) (fs : List Four) (g k : Nat) (wr : World) : Prop where
  r0 : Box wr w.heap.size [.int .i64 0, .int .i64 0, .int .i64 0, .int .i64 0]
  r9 : Box wr g [.int .i64 (cutI (coverX fs)), .int .i64 (cutI (coverY fs)), .int .i64 (cutI (mostI (fun r => r.a + r.c - coverX fs) (fs.take k))), .int .i64 (cutI (mostI (fun r => r.b + r.d - coverY fs) (fs.take k)))]
  r10 : Box wr (g + 1) [.bool (farI (coverX fs)), .bool (farI (coverY fs)), .bool (farI (mostI (fun r => r.a + r.c - coverX fs) (fs.take k))), .bool (farI (mostI (fun r => r.b + r.d - coverY fs) (fs.take k)))]
  b0 : Below w.heap.size w wr
  b1 : Below w1.heap.size w1 wr

theorem c2_step {w w1 wr w6 : World} {fs : List Four} {g j : Nat} {x : Four} (h : C2 w w1 fs g j wr) (hb : Below wr.heap.size wr w6) (hx : fs[j]? = some x) (hp : somePts x = true) (h0 : w.heap.size < w1.heap.size) (h1 : w1.heap.size ≤ g) :
    C2 w w1 fs g (j + 1) ((((w6.setCell ⟨g, 2, none⟩ (.int .i64 (max (cutI (mostI (fun r => r.a + r.c - coverX fs) (fs.take j))) (cutI (x.a + x.c - coverX fs))))).setCell ⟨g + 1, 2, none⟩ (.bool (farI (mostI (fun r => r.a + r.c - coverX fs) (fs.take j)) || farI (x.a + x.c - coverX fs)))).setCell
      ⟨g, 3, none⟩ (.int .i64 (max (cutI (mostI (fun r => r.b + r.d - coverY fs) (fs.take j))) (cutI (x.b + x.d - coverY fs))))).setCell ⟨g + 1, 3, none⟩ (.bool (farI (mostI (fun r => r.b + r.d - coverY fs) (fs.take j)) || farI (x.b + x.d - coverY fs)))) := by
  have hm := List.mem_of_getElem? hx
  unfold somePts pointsB at hp
  simp only [Bool.and_eq_true, decide_eq_true_eq] at hp
  have l1 : coverX fs ≤ x.a := leastI_le (g := (·.a)) hm
  have l2 : coverY fs ≤ x.b := leastI_le (g := (·.b)) hm
  rw [← cutI_max, ← cutI_max, ← farI_max (mostI_pos _ _) (by omega), ← farI_max (mostI_pos _ _) (by omega),
    ← mostI_succ (g := fun r => r.a + r.c - coverX fs) hx, ← mostI_succ (g := fun r => r.b + r.d - coverY fs) hx]
  refine ⟨?_, ?_, ?_, ?_, ?_⟩
  · exact ((((h.r0.below hb).off (by omega) _ _).off (by omega) _ _).off (by omega) _ _).off (by omega) _ _
  · exact ((((h.r9.below hb).set 2 _ (by simp)).off (by omega) _ _).set 3 _ (by simp)).off (by omega) _ _
  · exact ((((h.r10.below hb).off (by omega) _ _).set 2 _ (by simp)).off (by omega) _ _).set 3 _ (by simp)
  · exact ((((h.b0.trans (hb.mono h.b0.size)).setCell (by simp; omega) _).setCell (by simp; omega) _).setCell (by simp; omega) _).setCell (by simp; omega) _
  · exact ((((h.b1.trans (hb.mono h.b1.size)).setCell (by simp; omega) _).setCell (by simp; omega) _).setCell (by simp; omega) _).setCell (by simp; omega) _

theorem least_start {fs : List Four} {x : Four} (h : fs[0]? = some x) : leastTo (·.a) fs 0 = x.a ∧ leastTo (·.b) fs 0 = x.b := by
  cases fs with
  | nil => simp at h
  | cons y l => simp at h; subst h; exact ⟨rfl, rfl⟩

theorem cover_none_vals : cutI (coverX []) = 0 ∧ cutI (coverY []) = 0 ∧ cutI (coverW []) = 0 ∧ cutI (coverH []) = 0 ∧ coverFar [] = false := by decide

set_option maxRecDepth 100000 in
set_option maxHeartbeats 1600000 in
theorem cover_h (A : Option Addr) (n c q : Nat) (l fs : List Four) (w : World) (h : Hid (Sl fourE w A n c l)) (he : Hid (l.filter somePts = fs)) (hq : Hid (fs.length = q)) (hok : Hid (∀ r ∈ fs, FourOk r ∧ somePts r = true)) (hn : n ≤ 100000) (hqn : q ≤ 100000) :
    Calls Try.prog 21 #[.slice A n c] w fun e w' => e = .returned (.tuple #[.agg #[.int .i64 (cutI (coverX fs)), .int .i64 (cutI (coverY fs)), .int .i64 (cutI (coverW fs)), .int .i64 (cutI (coverH fs))], .bool (coverFar fs)]) ∧ Below w.heap.size w w' := by
  go_enter Try.func21, Try.ntmps21
  go_wp2_with fail
  generalize hW : World.alloc w _ = W
  obtain ⟨b0, hb0⟩ : Box W w.heap.size [.int .i64 0, .int .i64 0, .int .i64 0, .int .i64 0] ∧ Below w.heap.size w W := by
    subst hW
    exact ⟨Box.new w [_, _, _, _] _, (Below.refl _ _).alloc (Nat.le_refl _) _⟩
  clear hW
  have hS := Lib.hid (h.out.below hb0)
  have cp := pointed_any A n c l W hS.out hn
  unfold MadeSl at cp
  rw [he.out, hq.out] at cp
  refine cp.mono ?_; rintro e w1 ⟨E, c', rfl, hS1, hb1, hN⟩
  clear cp hS h he hN
  have b1 := b0.below hb1
  have hb2 := Lib.hid (hb0.trans (hb1.mono hb0.size))
  have hS1 := Lib.hid hS1
  clear b0 hb0 hb1
  by_cases hq0 : q = 0
  · subst hq0
    obtain rfl : fs = [] := List.eq_nil_of_length_eq_zero hq.out
    have hv := Lib.hid cover_none_vals
    have p := b1.four
    have pf := b1.four_free
    have hz := rect_zero
    go_wp2_with fail
    generalize hW5 : World.setCell (World.setCell (World.setCell (World.setCell w1 _ _) _ _) _ _) _ _ = W5
    obtain ⟨k3, hq6⟩ : Box W5 w.heap.size [.int .i64 0, .int .i64 0, .int .i64 0, .int .i64 0] ∧ Below w.heap.size w W5 := by
      subst hW5
      exact ⟨(((b1.set 0 _ (by simp)).set 1 _ (by simp)).set 2 _ (by simp)).set 3 _ (by simp), (((hb2.out.setCell (by simp) _).setCell (by simp) _).setCell (by simp) _).setCell (by simp) _⟩
    obtain ⟨q0, q1, q2, q3⟩ := k3.four
    clear hW5 p pf b1
    exact bodyPost_ret (v := .tuple #[.agg #[.int .i64 0, .int .i64 0, .int .i64 0, .int .i64 0], .bool false]) (by simp [results, Try.results21, go_sem, q0, q1, q2, q3]) rfl ⟨by rw [hv.out.1, hv.out.2.1, hv.out.2.2.1, hv.out.2.2.2.1, hv.out.2.2.2.2], hq6⟩
  · have hne : ((q : Int) == 0) = false := by simp; omega
    obtain ⟨x0, hx0⟩ : ∃ x, fs[0]? = some x := ⟨fs[0]'(by rw [hq.out]; omega), List.getElem?_eq_getElem _⟩
    have hx0' := Lib.hid hx0
    obtain ⟨a, rfl, hab, c0, c1, c2, c3⟩ := hS1.out.at_.four hx0
    clear hx0
    have hi : 0 < q := by omega
    simp only [Nat.zero_mul, Addr.add_zero'] at c0 c1 c2 c3
    go_wp2_with fail
    go_quiet (fail)
    have hl0 : Hid (leastTo (·.a) fs 0 = x0.a ∧ leastTo (·.b) fs 0 = x0.b) := Lib.hid (least_start hx0'.out)
    clear c0 c1 c2 c3
    have hst := Lib.hid (bl_drewN (Below.refl w1.heap.size w1) nq)
    go_wp2_with fail
    go_loopw [5, 6, 33] (fun x y i wr => ∃ k : Nat, k ≤ q ∧ i = .int .i64 k ∧ x = .int .i64 (leastTo (·.a) fs k) ∧ y = .int .i64 (leastTo (·.b) fs k) ∧ Hid (Below w1.heap.size w1 wr)) (fun _ _ i _ => q - (intOf i).toNat)
    case atStart => exact ⟨0, Nat.zero_le _, rfl, by rw [hl0.out.1], by rw [hl0.out.2], hst⟩
    case round =>
      obtain ⟨k, hk, rfl, rfl, rfl, hinv⟩ := hrel
      by_cases hlt : k < q
      · obtain ⟨x, hx⟩ : ∃ x, fs[k]? = some x := ⟨fs[k]'(by rw [hq.out]; omega), List.getElem?_eq_getElem _⟩
        obtain ⟨a', ha', -, c0, c1, c2, c3⟩ := (hS1.out.at_.keep hinv.out).four hx
        obtain rfl := Option.some.inj ha'
        clear ha'
        have e1 : Hid (leastTo (·.a) fs (k + 1) = min (leastTo (·.a) fs k) x.a) := Lib.hid (leastTo_succ hx)
        have e2 : Hid (leastTo (·.b) fs (k + 1) = min (leastTo (·.b) fs k) x.b) := Lib.hid (leastTo_succ hx)
        have hi1 : (0 : Int) ≤ (k : Int) := by omega
        have hi2 : (k : Int) < (q : Int) := by omega
        clear hx
        go_wp2_with fail
        go_quiet (fail)
        have hnx := Lib.hid (bl_drewN (hinv.out.alloc hinv.out.size (.cells (fourE x).toArray 33)) nq)
        clear c0 c1 c2 c3
        go_wp2_with fail
        go_roundw
        case rel => exact ⟨k + 1, by omega, by go_num, by rw [e1.out], by rw [e2.out], hnx⟩
        case measure => simp [intOf]; omega
      · have hkn : k = q := by omega
        have hX : leastTo (·.a) fs k = coverX fs := leastTo_all (by rw [hq.out]; omega)
        have hY : leastTo (·.b) fs k = coverY fs := leastTo_all (by rw [hq.out]; omega)
        rw [hX, hY]
        have hk1 : ¬ k < q := hlt
        clear hX hY hl0 hst
        have bw := b1.below hinv.out
        have hbw := Lib.hid (hb2.out.trans (hinv.out.mono hb2.out.size))
        have hsz : w1.heap.size ≤ wr.heap.size := hinv.out.size
        have hsz0 : w.heap.size < w1.heap.size := b1.lt
        have hin := Lib.hid hinv.out
        clear hinv
        go_wp2_with fail
        generalize hW : World.alloc (World.alloc wr _) _ = W3
        obtain ⟨d0, d9, d10, hd, hd1⟩ : Box W3 w.heap.size [.int .i64 0, .int .i64 0, .int .i64 0, .int .i64 0] ∧ Box W3 wr.heap.size [.int .i64 0, .int .i64 0, .int .i64 0, .int .i64 0] ∧ Box W3 (wr.heap.size + 1) [.bool false, .bool false, .bool false, .bool false] ∧ Below w.heap.size w W3 ∧ Below w1.heap.size w1 W3 := by
          subst hW
          refine ⟨(bw.alloc _).alloc _, (Box.new wr [_, _, _, _] _).alloc _, ?_, (hbw.out.alloc hbw.out.size _).alloc (by have := hbw.out.size; simp; omega) _, (hin.out.alloc hin.out.size _).alloc (by have := hin.out.size; simp; omega) _⟩
          simpa using Box.new (wr.alloc (.cells #[.int .i64 0, .int .i64 0, .int .i64 0, .int .i64 0] 33)) [.bool false, .bool false, .bool false, .bool false] 49
        clear hW bw hbw hin
        have p9 := d9.four
        have f9 := d9.four_free
        have p10 := d10.four
        have f10 := d10.four_free
        refine (cut_any _ _).mono ?_; rintro e w' ⟨rfl, rfl⟩
        go_wp2_with fail
        refine (cut_any _ _).mono ?_; rintro e w' ⟨rfl, rfl⟩
        go_wp2_with fail
        generalize hV : World.setCell (World.setCell (World.setCell (World.setCell W3 _ _) _ _) _ _) _ _ = V
        have hst : Hid (C2 w w1 fs wr.heap.size 0 V) := by
          subst hV
          refine Lib.hid ⟨(((d0.off (by omega) _ _).off (by omega) _ _).off (by omega) _ _).off (by omega) _ _, ?_, ?_, (((hd.setCell (by simp; omega) _).setCell (by simp; omega) _).setCell (by simp; omega) _).setCell (by simp; omega) _, (((hd1.setCell (by simp; omega) _).setCell (by simp; omega) _).setCell (by simp; omega) _).setCell (by simp; omega) _⟩
          · exact (((d9.set 0 _ (by simp)).off (by omega) _ _).set 1 _ (by simp)).off (by omega) _ _
          · exact (((d10.off (by omega) _ _).set 0 _ (by simp)).off (by omega) _ _).set 1 _ (by simp)
        clear hV d0 d9 d10 hd hd1 p9 f9 p10 f10
        generalize wr.heap.size = g at *
        have hXo : Hid (I64 (coverX fs)) := Lib.hid (coverX_ok hx0'.out hok.out)
        have hYo : Hid (I64 (coverY fs)) := Lib.hid (coverY_ok hx0'.out hok.out)
        go_loopw [62] (fun i wr' => ∃ k : Nat, k ≤ q ∧ i = .int .i64 k ∧ Hid (C2 w w1 fs g k wr')) (fun i _ => q - (intOf i).toNat)
        case atStart => exact ⟨0, Nat.zero_le _, rfl, hst⟩
        case round =>
          obtain ⟨j, hj, rfl, hinv⟩ := hrel
          by_cases hlt2 : j < q
          · obtain ⟨x, hx⟩ : ∃ x, fs[j]? = some x := ⟨fs[j]'(by rw [hq.out]; omega), List.getElem?_eq_getElem _⟩
            obtain ⟨a', ha', -, c0, c1, c2, c3⟩ := (hS1.out.at_.keep hinv.out.b1).four hx
            obtain rfl := Option.some.inj ha'
            clear ha'
            have hgx := Lib.hid (hok.out x (List.mem_of_getElem? hx))
            have hx' := Lib.hid hx
            have hi1 : (0 : Int) ≤ (j : Int) := by omega
            have hi2 : (j : Int) < (q : Int) := by omega
            clear hx
            go_wp2_with fail
            generalize hW : World.alloc wr _ = W4
            obtain ⟨d12, hd12⟩ : Box W4 wr.heap.size (fourE x) ∧ Below wr.heap.size wr W4 := by
              subst hW
              exact ⟨Box.new wr (fourE x) _, (Below.refl _ _).alloc (Nat.le_refl _) _⟩
            clear hW c0 c1 c2 c3
            refine (reach_any _ _ _ _ hXo.out hgx.out.1.x hgx.out.1.w).mono ?_; rintro e w5 ⟨rfl, hq5⟩
            have d12 := d12.below hq5.1
            have hd12 := hd12.trans (hq5.1.mono hd12.size)
            have p12 := d12.four
            clear hq5
            go_wp2_with fail
            refine (reach_any _ _ _ _ hYo.out hgx.out.1.y hgx.out.1.h).mono ?_; rintro e w6 ⟨rfl, hq6⟩
            have hd6 := Lib.hid (hd12.trans (hq6.1.mono hd12.size))
            have d9 := hinv.out.r9.below hd6.out
            have d10 := hinv.out.r10.below hd6.out
            clear hq6 d12 p12 hd12
            have hnx := Lib.hid (c2_step hinv.out hd6.out hx'.out hgx.out.2 hsz0 hsz)
            generalize mostI (fun r => r.a + r.c - coverX fs) (fs.take j) = M1 at *
            generalize mostI (fun r => r.b + r.d - coverY fs) (fs.take j) = M2 at *
            have p9 := d9.four
            have f9 := d9.four_free
            have p10 := d10.four
            have f10 := d10.four_free
            rcases hF1 : farI M1 with _ | _ <;> rcases hF2 : farI M2 with _ | _
            all_goals
              rw [hF1, hF2] at hnx
              rw [hF1, hF2] at p10
              simp only [Bool.true_or, Bool.false_or] at hnx
              clear hF1 hF2
              go_wp2_with fail
              go_roundw
              case rel => exact ⟨j + 1, by omega, by go_num, hnx⟩
              case measure => simp [intOf]; omega
          · have hjq : j = q := by omega
            have h9 := hinv.out.r9
            have h10 := hinv.out.r10
            rw [List.take_of_length_le (by rw [hq.out]; omega)] at h9 h10
            have h0 := hinv.out.r0
            have hb0 := Lib.hid hinv.out.b0
            clear hinv hst hk1 hi
            have hj1 : ¬ j < q := hlt2
            have p9 := h9.four
            have p10 := h10.four
            have p0 := h0.four
            have f0 := h0.four_free
            have hz := four_bools0
            have heq := four_eq
            go_wp2_with fail
            go_region
            go_wp2_with fail
            generalize hW5 : World.drew (World.setCell (World.setCell (World.setCell (World.setCell wr _ _) _ _) _ _) _ _) = W5
            obtain ⟨k3, hq6⟩ : Box W5 w.heap.size [.int .i64 (cutI (coverX fs)), .int .i64 (cutI (coverY fs)), .int .i64 (cutI (coverW fs)), .int .i64 (cutI (coverH fs))] ∧ Below w.heap.size w W5 := by
              subst hW5
              exact ⟨((((h0.set 0 _ (by simp)).set 1 _ (by simp)).set 2 _ (by simp)).set 3 _ (by simp)).drew, ((((hb0.out.setCell (by simp) _).setCell (by simp) _).setCell (by simp) _).setCell (by simp) _).drew⟩
            obtain ⟨q0, q1, q2, q3⟩ := k3.four
            clear hW5 p9 p10 p0 f0 h9 h10 h0
            exact bodyPost_ret (v := .tuple #[.agg #[.int .i64 (cutI (coverX fs)), .int .i64 (cutI (coverY fs)), .int .i64 (cutI (coverW fs)), .int .i64 (cutI (coverH fs))], .bool (coverFar fs)]) (by simp [results, Try.results21, go_sem, q0, q1, q2, q3]; rfl) rfl ⟨rfl, hq6⟩

theorem cover_any (A : Option Addr) (n c : Nat) (l : List Four) (w : World) (h : Sl fourE w A n c l) (hok : ∀ r ∈ l, FourOk r) (hn : n ≤ 100000) :
    Calls Try.prog 21 #[.slice A n c] w fun e w' => e = .returned (.tuple #[.agg #[.int .i64 (cutI (coverX (l.filter somePts))), .int .i64 (cutI (coverY (l.filter somePts))), .int .i64 (cutI (coverW (l.filter somePts))), .int .i64 (cutI (coverH (l.filter somePts)))], .bool (coverFar (l.filter somePts))]) ∧ Below w.heap.size w w' :=
  cover_h A n c _ l _ w (Lib.hid h) (Lib.hid rfl) (Lib.hid rfl) (Lib.hid (fun r hr => ⟨hok r (List.mem_filter.1 hr).1, (List.mem_filter.1 hr).2⟩)) hn (Nat.le_trans (List.length_filter_le _ _) (by rw [← h.len]; exact hn))
end Go.Proofs.Ytflehhepnmcdeaa
