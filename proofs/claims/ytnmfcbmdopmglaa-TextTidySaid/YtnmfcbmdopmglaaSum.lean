/-
  The contract of au.Sum: of a slice of numbers it answers their sum, cut, and whether that is beyond; of what was in memory nothing changes. The sum goes over 128 bits: two cells that a closure writes.
-/
import Derived.Test.YtnmfcbmdopmglaaAdd64
namespace Go.Proofs.Ytnmfcbmdopmglaa
open Go.RowKit

/-- Block g holds the sum s in its two halves. -/
def Tot (w : World) (g : Nat) (s : Int) : Prop :=
  w.cell? ⟨g, 0, none⟩ = some (.int .i64 (s / 18446744073709551616)) ∧ w.cell? ⟨g, 1, none⟩ = some (.int .u64 (s % 18446744073709551616)) ∧
  w.frozen? ⟨g, 0, none⟩ = false ∧ w.frozen? ⟨g, 1, none⟩ = false

theorem Tot.bound_ {s : Int} (h : -170141183460469231731687303715884105728 ≤ s * 2) (h' : s * 2 ≤ 170141183460469231731687303715884105727) :
    -4611686018427387904 ≤ s / 18446744073709551616 ∧ s / 18446744073709551616 ≤ 4611686018427387904 := by omega

set_option maxRecDepth 100000 in
theorem put_any (g : Nat) (x s : Int) (w : World) (hx : I64 x) (hH : -4611686018427387904 ≤ s / 18446744073709551616) (hH' : s / 18446744073709551616 ≤ 4611686018427387904) (ht : Tot w g s) :
    Calls Try.prog 55 #[.int .i64 x, .pointer (some ⟨g, 0, none⟩)] w fun e w' => e = .returned (.tuple #[]) ∧ Tot w' g (s + x) ∧ Qt g w w' ∧ w'.heap.size = w.heap.size := by
  obtain ⟨hx, hx'⟩ := hx
  obtain ⟨h0, h1, f0, f1⟩ := ht
  have eL : s = 18446744073709551616 * (s / 18446744073709551616) + s % 18446744073709551616 := by omega
  have hL0 : 0 ≤ s % 18446744073709551616 := by omega
  have hL1 : s % 18446744073709551616 < 18446744073709551616 := by omega
  have hHL : Hid ((s + x) / 18446744073709551616 = (s / 18446744073709551616) + ((s % 18446744073709551616) + x) / 18446744073709551616 ∧ (s + x) % 18446744073709551616 = ((s % 18446744073709551616) + x) % 18446744073709551616) := Lib.hid (by omega)
  clear eL
  generalize s / 18446744073709551616 = H at *
  generalize s % 18446744073709551616 = L at *
  have hw : 0 ≤ IntKind.u64.wrap x := by rw [IntKind.wrap_u64]; omega
  have hr := fun w => add64_run L (IntKind.u64.wrap x) hL0 hw w
  clear hw
  go_enter Try.func55, Try.ntmps55
  go_wp2_with fail
  go_end0
  have e1 : wrap64 (H + x / 9223372036854775808 + wrap64 ((L + IntKind.u64.wrap x) / 18446744073709551616)) = (s + x) / 18446744073709551616 := by
    rw [hHL.out.1]; simp only [wrap64, IntKind.wrap_u64]
    have hc : (L + x % 18446744073709551616) / 18446744073709551616 = (L + x) / 18446744073709551616 - x / 9223372036854775808 := by
      by_cases hn : x < 0
      · have m1 : x % 18446744073709551616 = x + 18446744073709551616 := by omega
        have m2 : x / 9223372036854775808 = -1 := by omega
        rw [m1, m2]; omega
      · have m1 : x % 18446744073709551616 = x := by omega
        have m2 : x / 9223372036854775808 = 0 := by omega
        rw [m1, m2]; omega
    have hb : -1 ≤ (L + x) / 18446744073709551616 ∧ (L + x) / 18446744073709551616 ≤ 1 := by omega
    have hb2 : -1 ≤ x / 9223372036854775808 ∧ x / 9223372036854775808 ≤ 0 := by omega
    rw [hc]
    generalize (L + x) / 18446744073709551616 = u at *
    generalize x / 9223372036854775808 = v at *
    clear hc
    omega
  have e2 : (L + IntKind.u64.wrap x) % 18446744073709551616 = (s + x) % 18446744073709551616 := by
    rw [hHL.out.2]; simp only [IntKind.wrap_u64]; omega
  rw [e1, e2]
  refine ⟨rfl, ⟨?_, ?_, ?_, ?_⟩, ?_, ?_⟩
  · rw [World.cell?_setCell_other _ _ _ _ (by simp), World.cell?_setCell_same _ _ _ h0]
  · exact World.cell?_setCell_same _ _ _ ((World.cell?_setCell_other _ _ _ _ (by simp)).trans h1)
  · rw [World.frozen?_setCell, World.frozen?_setCell]; exact f0
  · rw [World.frozen?_setCell, World.frozen?_setCell]; exact f1
  · exact ((Qt.refl g w).setCell (Nat.le_refl _) _).setCell (Nat.le_refl _) _
  · simp [World.setCell]

/-- The sum out of its two halves, cut. -/
theorem wide_cut_any (s : Int) (w : World) (hH : -4611686018427387904 ≤ s / 18446744073709551616) (hH' : s / 18446744073709551616 ≤ 4611686018427387904) :
    Calls Try.prog 57 #[.agg #[.int .i64 (s / 18446744073709551616), .int .u64 (s % 18446744073709551616)]] w fun e w' => e = .returned (.tuple #[.int .i64 (cutI s), .bool (farI s)]) ∧ Qt w.heap.size w w' := by
  have eL : s = 18446744073709551616 * (s / 18446744073709551616) + s % 18446744073709551616 := by omega
  have hL0 : 0 ≤ s % 18446744073709551616 := by omega
  have hL1 : s % 18446744073709551616 < 18446744073709551616 := by omega
  generalize s / 18446744073709551616 = H at *
  generalize s % 18446744073709551616 = L at *
  by_cases hin : H = wrap64 L / 9223372036854775808
  · have es : wrap64 L = s := by rw [eL, hin]; simp only [wrap64]; omega
    have heq : (H == wrap64 L / 9223372036854775808) = true := by simpa using hin
    rw [← es]
    clear hin es eL
    go_enter Try.func57, Try.ntmps57
    go_wp2_with fail
    refine (cut_any _ _).mono ?_; rintro e w' ⟨rfl, rfl⟩
    go_wp2_with fail
    go_ret2
    exact ⟨rfl, (Qt.refl _ _).alloc (Nat.le_refl _) _ _⟩
  · have heq : (H == wrap64 L / 9223372036854775808) = false := by simpa using hin
    have es : cutI s = boundI (decide (H < 0)) ∧ farI s = true := by
      simp only [wrap64] at hin
      unfold cutI farI boundI
      by_cases h : H < 0
      · simp only [h, decide_true, if_true]
        refine ⟨?_, ?_⟩
        · rw [if_neg (by omega), if_pos (by omega)]
        · simp; omega
      · simp only [h, decide_false]
        refine ⟨?_, ?_⟩
        · rw [if_pos (by omega)]; rfl
        · simp; omega
    rw [es.1, es.2]
    clear hin es eL
    go_enter Try.func57, Try.ntmps57
    go_wp2_with fail
    refine (bound_any _ _).mono ?_; rintro e w' ⟨rfl, rfl⟩
    go_wp2_with fail
    go_ret2
    exact ⟨rfl, (Qt.refl _ _).alloc (Nat.le_refl _) _ _⟩

theorem sum_bound : ∀ l : List Int, (∀ z ∈ l, I64 z) → -9223372036854775808 * (l.length : Int) ≤ l.sum ∧ l.sum ≤ 9223372036854775808 * (l.length : Int)
  | [], _ => by simp
  | z :: l, h => by
    have ih := sum_bound l fun y hy => h y (List.mem_cons_of_mem _ hy)
    have hz := h z (List.mem_cons_self ..)
    unfold I64 at hz
    simp only [List.sum_cons, List.length_cons, Int.natCast_add]
    omega

theorem sum_take_succ (l : List Int) (k : Nat) (h : k < l.length) : (l.take (k + 1)).sum = (l.take k).sum + l.getD k 0 := by
  rw [List.take_succ_eq_append_getElem h, List.sum_append, List.getD_eq_getElem?_getD, List.getElem?_eq_getElem h]
  simp

set_option maxRecDepth 100000 in
set_option maxHeartbeats 800000 in
theorem sum_any (A : Option Addr) (cap n : Nat) (zs : List Int) (w : World) (h : Ints w w.heap.size A zs) (hn : Hid (n = zs.length)) (hl : n ≤ 1000000) :
    Calls Try.prog 44 #[.slice A n cap] w fun e w' => e = .returned (.tuple #[.int .i64 (cutI zs.sum), .bool (farI zs.sum)]) ∧ Qt w.heap.size w w' := by
  obtain ⟨hz, hA⟩ := h
  have hz' := Lib.hid hz
  have hA' := Lib.hid hA
  clear hz hA
  have bd : ∀ k, k ≤ n → -4611686018427387904 ≤ (zs.take k).sum / 18446744073709551616 ∧ (zs.take k).sum / 18446744073709551616 ≤ 4611686018427387904 := by
    intro k hk
    have := sum_bound (zs.take k) fun z hzk => hz'.out z (List.mem_of_mem_take hzk)
    have hlk : (zs.take k).length ≤ k := List.length_take_le _ _
    omega
  have hbd := Lib.hid bd
  clear bd
  have t0 : Tot (w.alloc (Obj.cells #[Value.int IntKind.i64 0, Value.int IntKind.u64 0] 102)) w.heap.size 0 :=
    ⟨by simp, by simp, by simp, by simp⟩
  have hb0 : Qt w.heap.size w (w.alloc (Obj.cells #[Value.int IntKind.i64 0, Value.int IntKind.u64 0] 102)) := (Qt.refl _ _).alloc (Nat.le_refl _) _ _
  have hs0 : w.heap.size < (w.alloc (Obj.cells #[Value.int IntKind.i64 0, Value.int IntKind.u64 0] 102)).heap.size := by simp
  have hst := Lib.hid (And.intro t0 (And.intro hb0 hs0))
  clear t0 hb0 hs0
  go_enter Try.func44, Try.ntmps44
  go_wp2_with fail
  go_loopw [11] (fun i wr => ∃ k : Nat, k ≤ n ∧ i = .int .i64 k ∧ Hid (Tot wr w.heap.size (zs.take k).sum ∧ Qt w.heap.size w wr ∧ w.heap.size < wr.heap.size)) (fun i _ => n - (intOf i).toNat)
  case atStart => exact ⟨0, Nat.zero_le _, rfl, hst⟩
  case round =>
    obtain ⟨k, hk, rfl, hinv⟩ := hrel
    by_cases hlt : k < n
    · obtain ⟨a, rfl, hab, hac⟩ := hA'.out (by rw [← hn.out]; omega)
      have hc := hinv.out.2.1.1.cell (p := a.add k) (by rw [add_block]; exact hab)
      rw [hac k (by rw [← hn.out]; omega)] at hc
      have hzk : I64 (zs.getD k 0) := by
        have hk' : k < zs.length := by rw [← hn.out]; exact hlt
        rw [List.getD_eq_getElem?_getD, List.getElem?_eq_getElem hk']
        exact hz'.out _ (List.getElem_mem hk')
      have hnx := Lib.hid (sum_take_succ zs k (by rw [← hn.out]; exact hlt))
      clear hac
      generalize zs.getD k 0 = x at *
      have hput := put_any w.heap.size x (zs.take k).sum wr hzk (hbd.out k hk).1 (hbd.out k hk).2 hinv.out.1
      have hput := Lib.hid hput
      clear hzk
      go_wp2_with fail
      refine hput.out.mono ?_
      rintro e w1 ⟨rfl, ht1, hb1, hs1⟩
      have hnew : Hid (Tot w1 w.heap.size (zs.take (k + 1)).sum ∧ Qt w.heap.size w w1 ∧ w.heap.size < w1.heap.size) := by
        refine Lib.hid ⟨by rw [hnx.out]; exact ht1, hinv.out.2.1.trans hb1, by rw [hs1]; exact hinv.out.2.2⟩
      clear ht1 hb1 hs1 hput
      go_wp2_with fail
      go_roundw
      case rel => exact ⟨k + 1, by omega, by go_num, hnew⟩
      case measure => simp [intOf]; omega
    · have hkn : k = n := by omega
      obtain ⟨⟨h0, h1, f0, f1⟩, hbw, hsw⟩ := hinv.out
      have hsum : (zs.take k).sum = zs.sum := by rw [List.take_of_length_le (by rw [← hn.out]; omega)]
      rw [hsum] at h0 h1
      have hcut := wide_cut_any zs.sum wr (by rw [← hsum]; exact (hbd.out k hk).1) (by rw [← hsum]; exact (hbd.out k hk).2)
      have hcut := Lib.hid hcut
      have hbw := Lib.hid hbw
      clear hsum hkn f0 f1
      go_wp2_with fail
      refine hcut.out.mono ?_
      rintro e w1 ⟨rfl, hb1⟩
      have hb2 := Lib.hid (hbw.out.trans (hb1.mono (Nat.le_of_lt hsw)))
      clear hb1
      go_wp2_with fail
      go_ret2
      exact ⟨rfl, hb2.out⟩
end Go.Proofs.Ytnmfcbmdopmglaa
