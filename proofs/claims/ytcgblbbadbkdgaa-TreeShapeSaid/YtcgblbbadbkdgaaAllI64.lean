/-
  Contract of style.all at numbers: does the function say true of each element? Nothing that was there changes.
-/
import Derived.Test.YtcgblbbadbkdgaaSty
import Derived.Shelf.GgClosure.Gives
namespace Go.Proofs.Ytcgblbbadbkdgaa
open Go.RowKit Go.Shelf

set_option maxRecDepth 100000 in
theorem allI64_any (p : Int → Bool) (g : Nat) (eg : ∀ args w, (callFunc g args).run Try.prog w = .ok (.enter g args) w)
    (hp : Hid (∀ x w, Calls Try.prog g #[.int .i64 x] w fun e w' => e = .returned (.bool (p x)) ∧ Below w.heap.size w w'))
    (A : Option Addr) (n c : Nat) (l : List Int) (w : World) (h : Holds intE w w.heap.size A l) (hn : Hid (n = l.length)) (hl : n ≤ 100000000) :
    Calls Try.prog 61 #[.func (.func g) #[] #[], .slice A n c] w fun e w' => e = .returned (.bool (l.all p)) ∧ Below w.heap.size w w' := by
  have hst : Hid (Below w.heap.size w w ∧ (l.take 0).all p = true) := Lib.hid ⟨Below.refl _ _, rfl⟩
  have h := Lib.hid h
  go_enter Try.func61, Try.ntmps61
  go_wp2_with fail
  go_loopw [9] (fun i wr => ∃ k : Nat, k ≤ n ∧ i = .int .i64 k ∧ Hid (Below w.heap.size w wr ∧ (l.take k).all p = true)) (fun i _ => n - (intOf i).toNat)
  case atStart => exact ⟨0, Nat.zero_le _, rfl, hst⟩
  case round =>
    obtain ⟨k, hk, rfl, hinv⟩ := hrel
    by_cases hlt : k < n
    · have hkl : k < l.length := by rw [← hn.out]; exact hlt
      obtain ⟨x, hx⟩ : ∃ x, l[k]? = some x := ⟨l[k], List.getElem?_eq_getElem hkl⟩
      obtain ⟨a, rfl, hab, hc⟩ := (h.out.keep hinv.out.1).get intE_len hx
      have c0 := hc 0 _ rfl
      simp only [Nat.mul_one, Nat.add_zero] at c0
      have hbw := Lib.hid hinv.out.1
      have htk : Hid ((l.take (k + 1)).all p = p x) := Lib.hid (by
        rw [List.take_add_one, List.all_append, hinv.out.2, hx]; simp)
      have hres : Hid (p x = false → l.all p = false) := Lib.hid (fun hf => by
        rw [Bool.eq_false_iff]
        intro hall
        rw [List.all_eq_true] at hall
        have := hall x (List.mem_of_getElem? hx)
        rw [hf] at this; cases this)
      clear hc hx hkl hinv
      have hi1 : (0 : Int) ≤ (k : Int) := by omega
      have hi2 : (k : Int) < (n : Int) := by omega
      have hcall := fun w => hp.out x w
      cases hq : p x with
      | true =>
        rw [hq] at hcall
        rw [hq] at htk
        go_wp2_with (go_at_fn g; refine (hcall _).mono ?_; rintro e w1 ⟨rfl, hb1⟩)
        have hnew : Hid (Below w.heap.size w w1 ∧ (l.take (k + 1)).all p = true) := Lib.hid ⟨hbw.out.trans (hb1.mono hbw.out.size), htk.out⟩
        clear hb1 hcall
        go_wp2_with fail
        go_roundw
        case rel => exact ⟨k + 1, by omega, by go_num, hnew⟩
        case measure => simp [intOf]; omega
      | false =>
        rw [hq] at hcall
        have hres := Lib.hid (hres.out hq)
        go_wp2_with (go_at_fn g; refine (hcall _).mono ?_; rintro e w1 ⟨rfl, hb1⟩)
        go_ret
        exact ⟨by rw [hres.out]; rfl, hbw.out.trans (hb1.mono hbw.out.size)⟩
    · have hkn : k = n := by omega
      have hall : Hid (l.all p = true) := Lib.hid (by
        have := hinv.out.2
        rw [List.take_of_length_le (by rw [← hn.out]; omega)] at this
        exact this)
      have hbw := Lib.hid hinv.out.1
      clear hinv hkn
      go_wp2_with fail
      go_ret
      exact ⟨by rw [hall.out]; rfl, hbw.out⟩
end Go.Proofs.Ytcgblbbadbkdgaa
