/-
  Contract of style.Right: it says of any style what the chapter says.
-/
import Derived.Test.YtcgblbbadbkdgaaRight
import Derived.Laws.EntriesVeiled
namespace Go.Proofs.Ytcgblbbadbkdgaa
open Go.RowKit Go.Shelf

theorem at_new (w : World) (s : Style) (t : TypeId) : AtS (w.alloc (.cells (styE s).toArray t)) w.heap.size s := AtS.of (Box.new w (styE s) t)

theorem add_zero_ (g i : Nat) : (Addr.add ⟨g, 0, none⟩ i) = ⟨g, i, none⟩ := by unfold Addr.add; by_cases h : i = 0 <;> simp [h]
/-- What the loop keeps. -/
def RInv (w0 : World) (gs gb : Nat) (s : Style) (gr : Int) (k : Nat) (wr : World) : Prop :=
  Below w0.heap.size w0 wr ∧ AtS wr gs s ∧ Holds ruleE wr wr.heap.size (some ⟨gb, 0, none⟩) rows ∧ Seen s gr k
theorem rinv_next {w0 : World} {gs gb : Nat} {s : Style} {gr : Int} {k : Nat} {wr w1 : World} (h : RInv w0 gs gb s gr k wr) (hb : Below wr.heap.size wr w1) (hs : Seen s gr (k + 1)) : RInv w0 gs gb s gr (k + 1) w1 :=
  ⟨h.1.trans (hb.mono h.1.size), h.2.1.below hb, h.2.2.1.below hb, hs⟩
theorem seen_succ {s : Style} {gr : Int} {k : Nat} (h : Seen s gr k) (h1 : (if k < 13 then (1 : Int) else 2) = gr → rule s k = true) : Seen s gr (k + 1) := fun j hj he => by
  by_cases e : j = k
  · subst e; exact h1 he
  · exact h j (by omega) he

set_option maxRecDepth 100000 in
set_option maxHeartbeats 800000 in
theorem right_any (s : Style) (w : World) : Calls Try.prog 12 #[styV s] w fun e w' => e = .returned (.bool (rightB s)) ∧ Below w.heap.size w w' := by
  unfold styV
  obtain ⟨L, hL⟩ : ∃ L, (styE s).toArray = L := ⟨_, rfl⟩
  rw [hL]
  have c0 : (w.alloc (.cells L 28)).cell? ⟨w.heap.size, 0, none⟩ = some (.int .u8 s.kind) := by rw [← hL]; exact (at_new w s _).2 0 _ rfl
  have hA := Lib.hid (show AtS (w.alloc (.cells L 28)) w.heap.size s by rw [← hL]; exact at_new w s _)
  have hb0 := Lib.hid ((Below.refl w.heap.size w).alloc (Nat.le_refl _) (.cells L 28))
  clear hL
  obtain ⟨gr, hgr⟩ : ∃ gr, groupI s.kind = gr := ⟨_, rfl⟩
  have hgo := fun w => groupOf_any s.kind w
  rw [hgr] at hgo
  replace hgr := Lib.hid hgr
  by_cases h0 : gr = 0
  · subst h0
    have hr : Hid (rightB s = false) := Lib.hid (seen_none s hgr.out)
    go_enter Try.func12, Try.ntmps12
    go_wp2_with (go_at_call 34; refine (hgo _).mono ?_; rintro e w1 ⟨rfl, rfl⟩)
    go_ret
    exact ⟨by rw [hr.out]; rfl, hb0.out⟩
  have h0' : (gr == 0) = false := by simpa using h0
  replace h0 := Lib.hid h0
  go_enter Try.func12, Try.ntmps12
  go_wp2_with (go_at_call 34; refine (hgo _).mono ?_; rintro e w1 ⟨rfl, rfl⟩)
  generalize w.alloc _ = W0 at *
  refine (rules_any W0).mono ?_; rintro e W1 ⟨gb, rfl, hRw, hbW⟩
  have hst : Hid (RInv w w.heap.size gb s gr 0 W1) := Lib.hid ⟨hb0.out.trans (hbW.mono hb0.out.size), hA.out.below hbW, hRw, fun j hj => absurd hj (Nat.not_lt_zero j)⟩
  clear hRw hbW hA hb0 c0 hgo
  go_wp2_with fail
  go_loopw [13] (fun i wr => ∃ k : Nat, k ≤ 17 ∧ i = .int .i64 k ∧ Hid (RInv w w.heap.size gb s gr k wr)) (fun i _ => 17 - (intOf i).toNat)
  case atStart => exact ⟨0, Nat.zero_le _, rfl, hst⟩
  case round =>
    obtain ⟨k, hk, rfl, hinv⟩ := hrel
    by_cases hlt : k < 17
    · obtain ⟨r, hr⟩ : ∃ r, rows[k]? = some r := ⟨rows[k]'(by simpa [rows] using hlt), List.getElem?_eq_getElem _⟩
      obtain ⟨hsay, eg, hg1⟩ := rows_says w.heap.size s k r hr
      obtain ⟨a, ha, hab, hc⟩ := hinv.out.2.2.1.get ruleE_len hr
      obtain rfl := Option.some.inj ha
      have c0 := hc 0 _ rfl
      have c1 := hc 1 _ rfl
      simp only [Nat.add_zero, add_zero_] at c0
      rw [add_zero_] at c1
      obtain ⟨rg, f⟩ := r
      simp only at hsay eg hg1 c0 c1
      clear hc hr ha
      replace hg1 := Lib.hid hg1
      have hi1 : (0 : Int) ≤ (k : Int) := by omega
      have hi2 : (k : Int) < 17 := by omega
      by_cases he : rg = gr
      · subst he
        obtain ⟨b, hbb⟩ : ∃ b, rule s k = b := ⟨_, rfl⟩
        rw [hbb] at hsay
        have hcall := fun W (h : Below wr.heap.size wr W) => hsay W (hinv.out.2.1.below h)
        cases b with
        | true =>
          have hn := Lib.hid (fun w1 hb => rinv_next (w1 := w1) hinv.out hb (seen_succ hinv.out.2.2.2 (fun _ => hbb)))
          go_wp2_with (go_at_fn f; refine (hcall _ ((Below.refl _ _).alloc (Nat.le_refl _) _)).mono ?_; rintro e w1 ⟨rfl, hb1⟩)
          have hnew : Hid (RInv w w.heap.size gb s rg (k + 1) w1) := Lib.hid (hn.out w1 (((Below.refl _ _).alloc (Nat.le_refl _) _).trans (hb1.mono (by simp))))
          clear hb1 hcall hn
          go_wp2_with fail
          go_roundw
          case rel => exact ⟨k + 1, by omega, by go_num, hnew⟩
          case measure => simp [intOf]; omega
        | false =>
          have hres := Lib.hid (seen_not s rg hgr.out k hlt hg1.out.symm hbb)
          go_wp2_with (go_at_fn f; refine (hcall _ ((Below.refl _ _).alloc (Nat.le_refl _) _)).mono ?_; rintro e w1 ⟨rfl, hb1⟩)
          go_ret
          exact ⟨by rw [hres.out]; rfl, hinv.out.1.trans ((((Below.refl _ _).alloc (Nat.le_refl _) _).trans (hb1.mono (by simp))).mono hinv.out.1.size)⟩
      · have he' : (rg == gr) = false := by simpa using he
        have hn := Lib.hid (fun w1 hb => rinv_next (w1 := w1) hinv.out hb (seen_succ hinv.out.2.2.2 (fun h => absurd (hg1.out.trans h) he)))
        clear he
        have hnew := Lib.hid (hn.out _ ((Below.refl _ _).alloc (Nat.le_refl _) (.cells #[.int .u8 rg, .func (.func f) #[] #[]] 64)))
        clear hn hsay
        go_wp2_with fail
        go_roundw
        case rel => exact ⟨k + 1, by omega, by go_num, hnew⟩
        case measure => simp [intOf]; omega
    · have hkn : k = 17 := by omega
      subst hkn
      have hres := Lib.hid (seen_all s gr hgr.out h0.out hinv.out.2.2.2)
      have hbw := Lib.hid hinv.out.1
      clear hinv
      go_wp2_with fail
      go_ret
      exact ⟨by rw [hres.out]; rfl, hbw.out⟩
end Go.Proofs.Ytcgblbbadbkdgaa
