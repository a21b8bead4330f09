/-
  Contract of the document's answer for lengths: the difference of two numbers by digits.
-/
import Derived.Test.YtnmfcbmdopmglaaPlus
namespace Go.Proofs.Ytnmfcbmdopmglaa
open Go.RowKit

def MInv (w0 : World) (al bl : List Bool) (k le : Nat) (v : Value) (wr : World) : Prop :=
  ∃ out : List Bool, wr.ownsRow w0.heap.size 4 1 v k (out.map Value.bool) ∧ out.length = k ∧ Below w0.heap.size w0 wr ∧ (Dg.val out : Int) + ((2 ^ k : Nat) : Int) * ((Dg.val (al.drop k) : Int) - Dg.val (bl.drop k) - le) = (Dg.val al : Int) - Dg.val bl

theorem minv_start (w : World) (al bl : List Bool) : MInv w al bl 0 0 (.slice none 0 0) w :=
  ⟨[], World.ownsRow_nil _ _ _ _, rfl, Below.refl _ _, by simp [Dg.val]⟩

theorem minv_step {w0 wr w' : World} {al bl : List Bool} {k le le' : Nat} {v v' : Value} {out : List Bool} (hl : out.length = k) (hb : Below w0.heap.size w0 wr)
    (hv : (Dg.val out : Int) + ((2 ^ k : Nat) : Int) * ((Dg.val (al.drop k) : Int) - Dg.val (bl.drop k) - le) = (Dg.val al : Int) - Dg.val bl) (hr : wr.ownsRow w0.heap.size 4 1 v k (out.map Value.bool)) (t : Bool)
    (ht : (Dg.b2n t : Int) - 2 * le' = (Dg.dig al k : Int) - Dg.dig bl k - le) (o : Obj)
    (hown : w'.ownsRow w0.heap.size 4 1 v' (k + 1) ((out ++ [t]).map Value.bool)) (hg : (wr.alloc o).grownBy w' v.ownBlock) :
    MInv w0 al bl (k + 1) le' v' w' :=
  ⟨out ++ [t], hown, by simp [hl], (hb.alloc hb.size o).grown hg (by have := hb.size; simp; omega) (fun k hk => (hr.lt k hk).1), Dg.minus_step al bl out le k _ hl hv t le' ht⟩

set_option maxRecDepth 100000 in
set_option maxHeartbeats 800000 in
theorem minus_any (A C : Option Addr) (n m cA cC : Nat) (al bl : List Bool) (w : World) (hSA : Hid (SlB w A n cA al)) (hSC : Hid (SlB w C m cC bl)) (hl : n ≤ 100000) (hl2 : m ≤ 100000) (hge : Hid (Dg.val bl ≤ Dg.val al)) :
    Calls Try.prog 64 #[.slice A n cA, .slice C m cC] w fun e w' => Made w (Dg.val al - Dg.val bl) n e w' := by
  have hA := Lib.hid hSA.out.bits
  have hC := Lib.hid hSC.out.bits
  have hn := Lib.hid hSA.out.len
  have hm := Lib.hid hSC.out.len
  have hst := Lib.hid (minv_start w al bl)
  go_enter Try.func64, Try.ntmps64
  go_wp2_with fail
  go_loopw [5, 6, 7] (fun v more i wr => ∃ k mo : Nat, i = .int .i64 k ∧ more = .int .i64 mo ∧ k ≤ n ∧ mo ≤ 1 ∧ Hid (MInv w al bl k mo v wr)) (fun _ _ i _ => n - (intOf i).toNat)
  case atStart => exact ⟨0, 0, rfl, rfl, by omega, by omega, hst⟩
  case round =>
    obtain ⟨k, mo, rfl, rfl, hk, hmo, hinv⟩ := hrel
    by_cases hlt : k < n
    · obtain ⟨out, hown, hol, hbw, hval⟩ := hinv.out
      have h1 := Dg.dig_le al k
      have h2 := Dg.dig_le bl k
      have hkA := Lib.hid (hA.out.keep hbw)
      have hkC := Lib.hid (hC.out.keep hbw)
      have c1 := Lib.hid (at_any A n cA k w.heap.size al wr hkA.out hn (by omega))
      have c2 := Lib.hid (at_any C m cC k w.heap.size bl wr hkC.out hm (by omega))
      have hkb : Hid (k + 1 ≤ 1000000) := Lib.hid (by omega)
      by_cases hneg : (Dg.dig al k : Int) - (Dg.dig bl k : Int) - (mo : Int) < 0
      · obtain ⟨t, ht⟩ : ∃ t : Bool, (Dg.b2n t : Int) - 2 * (1 : Nat) = (Dg.dig al k : Int) - Dg.dig bl k - mo := by
          by_cases h : (Dg.dig al k : Int) - (Dg.dig bl k : Int) - (mo : Int) = -1
          · exact ⟨true, by rw [h]; rfl⟩
          · exact ⟨false, by simp [Dg.b2n]; omega⟩
        have hstep := Lib.hid (fun v' w' h1 h2 => minv_step (v' := v') (w' := w') hol hbw hval hown t ht (.cells #[Value.bool t] 4) h1 h2)
        have hown1 := Lib.hid (hown.alloc (.cells #[Value.bool t] 4))
        have hone := Lib.hid (one_bit wr t)
        have hbs : Hid (w.heap.size ≤ (wr.alloc (.cells #[Value.bool t] 4)).heap.size) := Lib.hid (by have := hbw.size; simp; omega)
        have htt : ((Dg.dig al k : Int) - (Dg.dig bl k : Int) - (mo : Int) + 2 == 1) = t := by
          cases t <;> simp [Dg.b2n] at ht ⊢ <;> omega
        clear hbw hval hown hol ht hinv
        go_wp2_with fail
        refine c1.out.mono ?_; rintro e w' ⟨rfl, rfl⟩
        go_wp2_with fail
        refine c2.out.mono ?_; rintro e w' ⟨rfl, rfl⟩
        go_wp2_with (at_builtin; refine append_bits rfl (.tmp 28) (.tmp 31) rfl w.heap.size _ k out rfl hown1.out _ _ 1 1 [t] rfl (fun h => by cases h) (Lib.hid rfl) hone.out hkb.out hbs.out ?_; intro v' w' h1 h2; have hnx := Lib.hid (hstep.out v' w' h1 h2); clear h1 h2)
        go_roundw
        case rel => exact ⟨k + 1, 1, by go_num, rfl, by omega, by omega, hnx⟩
        case measure => simp [intOf]; omega
      · obtain ⟨t, ht⟩ : ∃ t : Bool, (Dg.b2n t : Int) - 2 * (0 : Nat) = (Dg.dig al k : Int) - Dg.dig bl k - mo := by
          by_cases h : (Dg.dig al k : Int) - (Dg.dig bl k : Int) - (mo : Int) = 1
          · exact ⟨true, by rw [h]; rfl⟩
          · exact ⟨false, by simp [Dg.b2n]; omega⟩
        have hstep := Lib.hid (fun v' w' h1 h2 => minv_step (v' := v') (w' := w') hol hbw hval hown t ht (.cells #[Value.bool t] 4) h1 h2)
        have hown1 := Lib.hid (hown.alloc (.cells #[Value.bool t] 4))
        have hone := Lib.hid (one_bit wr t)
        have hbs : Hid (w.heap.size ≤ (wr.alloc (.cells #[Value.bool t] 4)).heap.size) := Lib.hid (by have := hbw.size; simp; omega)
        have htt : ((Dg.dig al k : Int) - (Dg.dig bl k : Int) - (mo : Int) == 1) = t := by
          cases t <;> simp [Dg.b2n] at ht ⊢ <;> omega
        clear hbw hval hown hol ht hinv
        go_wp2_with fail
        refine c1.out.mono ?_; rintro e w' ⟨rfl, rfl⟩
        go_wp2_with fail
        refine c2.out.mono ?_; rintro e w' ⟨rfl, rfl⟩
        go_wp2_with (at_builtin; refine append_bits rfl (.tmp 28) (.tmp 31) rfl w.heap.size _ k out rfl hown1.out _ _ 1 1 [t] rfl (fun h => by cases h) (Lib.hid rfl) hone.out hkb.out hbs.out ?_; intro v' w' h1 h2; have hnx := Lib.hid (hstep.out v' w' h1 h2); clear h1 h2)
        go_roundw
        case rel => exact ⟨k + 1, 0, by go_num, rfl, by omega, by omega, hnx⟩
        case measure => simp [intOf]; omega
    · have hkn : k = n := by omega
      obtain ⟨out, hown, hol, hbw, hval⟩ := hinv.out
      obtain ⟨E, c, rfl, hI, hfr⟩ := bits_own hown
      have hfin : Hid (Made w (Dg.val al - Dg.val bl) n (.returned (.slice E k c)) wr) := by
        refine Lib.hid ⟨E, k, c, out, rfl, hk, ?_, hI, hbw, hfr⟩
        have := Dg.minus_end al bl out mo (by rw [hol, hkn, hn.out]) hge.out (by rw [← hn.out, ← hkn]; exact hval)
        omega
      clear hown hol hbw hval hI hkn hinv hfr
      go_wp2_with fail
      go_ret
      exact hfin.out
end Go.Proofs.Ytnmfcbmdopmglaa
