/-
  Contracts of the document's answer for lengths: the sum and the difference of two numbers by digits.
-/
import Derived.Test.YtnmfcbmdopmglaaRef
namespace Go.Proofs.Ytnmfcbmdopmglaa
open Go.RowKit

/-- What was answered: a slice of digits, no more than L, of the number N; nothing below changed. -/
def Made (w : World) (N L : Nat) (e : Ending) (w' : World) : Prop :=
  ∃ (E : Option Addr) (k c : Nat) (l : List Bool), e = .returned (.slice E k c) ∧ k ≤ L ∧ Dg.val l = N ∧ SlB w' E k c l ∧ Below w.heap.size w w' ∧ Fresh w.heap.size E

def PInv (w0 : World) (al bl : List Bool) (k mo : Nat) (v : Value) (wr : World) : Prop :=
  ∃ out : List Bool, wr.ownsRow w0.heap.size 4 1 v k (out.map Value.bool) ∧ out.length = k ∧ Below w0.heap.size w0 wr ∧ Dg.val out + 2 ^ k * (mo + Dg.val (al.drop k) + Dg.val (bl.drop k)) = Dg.val al + Dg.val bl

theorem pinv_start (w : World) (al bl : List Bool) : PInv w al bl 0 0 (.slice none 0 0) w :=
  ⟨[], World.ownsRow_nil _ _ _ _, rfl, Below.refl _ _, by simp [Dg.val]⟩

theorem pinv_step {w0 wr w' : World} {al bl : List Bool} {k mo : Nat} {v v' : Value} {out : List Bool} (hl : out.length = k) (hb : Below w0.heap.size w0 wr)
    (hv : Dg.val out + 2 ^ k * (mo + Dg.val (al.drop k) + Dg.val (bl.drop k)) = Dg.val al + Dg.val bl) (hr : wr.ownsRow w0.heap.size 4 1 v k (out.map Value.bool)) (t : Bool) (ht : Dg.b2n t = (Dg.dig al k + Dg.dig bl k + mo) % 2) (o : Obj)
    (hown : w'.ownsRow w0.heap.size 4 1 v' (k + 1) ((out ++ [t]).map Value.bool)) (hg : (wr.alloc o).grownBy w' v.ownBlock) :
    PInv w0 al bl (k + 1) ((Dg.dig al k + Dg.dig bl k + mo) / 2) v' w' :=
  ⟨out ++ [t], hown, by simp [hl], (hb.alloc hb.size o).grown hg (by have := hb.size; simp; omega) (fun k hk => (hr.lt k hk).1), Dg.plus_step al bl out mo k _ hl hv t ht⟩

theorem more_bits {w : World} {B B' : Nat} {A : Option Addr} {bl : List Bool} (h : Bits w B A bl) (hB : B ≤ B') : Bits w B' A bl := h.more hB

set_option maxRecDepth 100000 in
set_option maxHeartbeats 800000 in
theorem plus_any (A C : Option Addr) (n m cA cC : Nat) (al bl : List Bool) (w : World) (hSA : Hid (SlB w A n cA al)) (hSC : Hid (SlB w C m cC bl)) (hl : n ≤ 100000) (hl2 : m ≤ 100000) :
    Calls Try.prog 63 #[.slice A n cA, .slice C m cC] w fun e w' => Made w (Dg.val al + Dg.val bl) (max n m + 1) e w' := by
  have hA := Lib.hid hSA.out.bits
  have hC := Lib.hid hSC.out.bits
  have hn := Lib.hid hSA.out.len
  have hm := Lib.hid hSC.out.len
  have hst := Lib.hid (pinv_start w al bl)
  go_enter Try.func63, Try.ntmps63
  go_wp2_with fail
  go_loopw [5, 6, 7] (fun v more i wr => ∃ k mo : Nat, i = .int .i64 k ∧ more = .int .i64 mo ∧ k ≤ max n m + 1 ∧ mo ≤ 1 ∧ Hid (PInv w al bl k mo v wr)) (fun _ _ i _ => max n m + 1 - (intOf i).toNat)
  case atStart => exact ⟨0, 0, rfl, rfl, by omega, by omega, hst⟩
  case round =>
    obtain ⟨k, mo, rfl, rfl, hk, hmo, hinv⟩ := hrel
    by_cases hlt : k ≤ max n m
    · obtain ⟨out, hown, hol, hbw, hval⟩ := hinv.out
      have h1 := Dg.dig_le al k
      have h2 := Dg.dig_le bl k
      have hkA := Lib.hid (hA.out.keep hbw)
      have hkC := Lib.hid (hC.out.keep hbw)
      have c1 := Lib.hid (at_any A n cA k w.heap.size al wr hkA.out hn (by omega))
      have c2 := Lib.hid (at_any C m cC k w.heap.size bl wr hkC.out hm (by omega))
      obtain ⟨t, ht⟩ : ∃ t : Bool, Dg.b2n t = (Dg.dig al k + Dg.dig bl k + mo) % 2 := by
        rcases Nat.mod_two_eq_zero_or_one (Dg.dig al k + Dg.dig bl k + mo) with h | h
        · exact ⟨false, by rw [h]; rfl⟩
        · exact ⟨true, by rw [h]; rfl⟩
      have hstep := Lib.hid (fun v' w' h1 h2 => pinv_step (v' := v') (w' := w') hol hbw hval hown t ht (.cells #[Value.bool t] 4) h1 h2)
      have hown1 := Lib.hid (hown.alloc (.cells #[Value.bool t] 4))
      have hone := Lib.hid (one_bit wr t)
      have hbs : Hid (w.heap.size ≤ (wr.alloc (.cells #[Value.bool t] 4)).heap.size) := Lib.hid (by have := hbw.size; simp; omega)
      have hkb : Hid (k + 1 ≤ 1000000) := Lib.hid (by omega)
      have htt : ((((Dg.dig al k : Nat) : Int) + (Dg.dig bl k : Int) + (mo : Int)) % 2 == 1) = t := by
        cases t
        · simp [Dg.b2n] at ht ⊢; omega
        · simp [Dg.b2n] at ht ⊢; omega
      have hq : Hid ((((Dg.dig al k : Nat) : Int) + (Dg.dig bl k : Int) + (mo : Int)) / 2 = (((Dg.dig al k + Dg.dig bl k + mo) / 2 : Nat) : Int)) := Lib.hid (by omega)
      clear hbw hval hown hol ht hinv
      go_wp2_with fail
      refine c1.out.mono ?_; rintro e w' ⟨rfl, rfl⟩
      go_wp2_with fail
      refine c2.out.mono ?_; rintro e w' ⟨rfl, rfl⟩
      go_wp2_with (at_builtin; refine append_bits rfl (.tmp 27) (.tmp 31) rfl w.heap.size _ k out rfl hown1.out _ _ 1 1 [t] rfl (fun h => by cases h) (Lib.hid rfl) hone.out hkb.out hbs.out ?_; intro v' w' h1 h2; have hnx := Lib.hid (hstep.out v' w' h1 h2); clear h1 h2)
      go_roundw
      case rel => exact ⟨k + 1, _, by go_num, by rw [hq.out], by omega, by omega, hnx⟩
      case measure => simp [intOf]; omega
    · have hkn : k = max n m + 1 := by omega
      obtain ⟨out, hown, hol, hbw, hval⟩ := hinv.out
      obtain ⟨E, c, rfl, hI, hfr⟩ := bits_own hown
      have hfin : Hid (Made w (Dg.val al + Dg.val bl) (max n m + 1) (.returned (.slice E k c)) wr) :=
        Lib.hid ⟨E, k, c, out, rfl, hk, Dg.plus_end al bl out mo k hol (by rw [← hn.out]; omega) (by rw [← hm.out]; omega) hval, hI, hbw, hfr⟩
      clear hown hol hbw hval hI hkn hinv hfr
      go_wp2_with fail
      go_ret
      exact hfin.out
end Go.Proofs.Ytnmfcbmdopmglaa
