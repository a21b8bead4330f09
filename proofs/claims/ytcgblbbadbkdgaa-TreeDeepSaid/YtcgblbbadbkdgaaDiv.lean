/-
  The contract of math/bits.Div64: where the upper half is less than the divisor it answers the quotient and the rest; no memory is made or changed. The two digits of the quotient are its two loops.
-/
import Derived.Test.YtcgblbbadbkdgaaBits
import Derived.Test.YtcgblbbadbkdgaaKnuth
import Derived.Deep.CutBlock
import Derived.Deep.CutRange
import Derived.BigGuard
import Derived.Deep.QuietTactic
import Derived.BigQuiet
namespace Go.Proofs.Ytcgblbbadbkdgaa
open Go.RowKit
set_option maxRecDepth 100000 in
set_option maxHeartbeats 1600000 in
theorem div64_core (h l y s Y a b U L u1 u0 Q1 R1 Q0 R0 qs rs qt rt : Nat) (hy : y < 18446744073709551616) (hh : h < y) (h0 : 0 < h)
    (hs63 : s ≤ 63) (hs : Hid (64 - (Lib.bitLen y : Int) = (s : Int)))
    (r1 : IntKind.u64.wrap ((y : Int) * 2 ^ s) = (Y : Int)) (r2 : bits .and .u64 (Y : Int) 4294967295 = (b : Int))
    (r3 : bits .or .u64 (IntKind.u64.wrap ((h : Int) * 2 ^ s)) ((l : Int) / 2 ^ (64 - s)) = (U : Int))
    (r4 : IntKind.u64.wrap ((l : Int) * 2 ^ s) = (L : Int)) (r5 : bits .and .u64 (L : Int) 4294967295 = (u0 : Int))
    (r6 : (Y : Int) / 4294967296 = (a : Int)) (r7 : (L : Int) / 4294967296 = (u1 : Int))
    (r8 : IntKind.u64.wrap (IntKind.u64.wrap (IntKind.u64.wrap ((U : Int) * 4294967296) + (u1 : Int)) - IntKind.u64.wrap ((Q1 : Int) * (Y : Int))) = (R1 : Int))
    (r9 : IntKind.u64.wrap (IntKind.u64.wrap (IntKind.u64.wrap ((R1 : Int) * 4294967296) + (u0 : Int)) - IntKind.u64.wrap ((Q0 : Int) * (Y : Int))) = (R0 : Int))
    (r10 : IntKind.u64.wrap ((U : Int) / (a : Int)) = (qs : Int)) (r11 : IntKind.u64.wrap ((U : Int) - IntKind.u64.wrap ((qs : Int) * (a : Int))) = (rs : Int))
    (r12 : IntKind.u64.wrap ((R1 : Int) / (a : Int)) = (qt : Int)) (r13 : IntKind.u64.wrap ((R1 : Int) - IntKind.u64.wrap ((qt : Int) * (a : Int))) = (rt : Int))
    (hm1 : Hid (qs * a + rs = U)) (hg1 : Q1 ≤ qs) (hq1 : qs ≤ 4294967297) (hr1 : rs < 4294967296)
    (hm0 : Hid (qt * a + rt = R1)) (hg0 : Q0 ≤ qt) (hq0 : qt ≤ 4294967297) (hr0 : rt < 4294967296)
    (ha : 2147483648 ≤ a) (ha2 : a < 4294967296) (hb : b < 4294967296) (hu1 : u1 < 4294967296) (hu0 : u0 < 4294967296) (hUY : U < Y) (hR1Y : R1 < Y) (hY : Hid (Y = a * 4294967296 + b))
    (hQ1 : Hid (Q1 = (U * 4294967296 + u1) / Y)) (hQ0 : Hid (Q0 = (R1 * 4294967296 + u0) / Y)) (hQ1l : Q1 < 4294967296) (hQ0l : Q0 < 4294967296) (w : World) :
    Calls Try.prog 89 #[.int .u64 h, .int .u64 l, .int .u64 y] w fun e w' => e = .returned (.tuple #[.int .u64 ((Q1 * 4294967296 + Q0 : Nat) : Int), .int .u64 ((R0 : Int) / 2 ^ s)]) ∧ w = w' := by
  go_enter Try.func89, Try.ntmps89
  go_upto_block 0 with (go_at_call 90; refine (lead64_any _ _ (by omega) (by omega)).mono ?_; rintro e w' ⟨rfl, rfl⟩; rw [show (64 : Int) - (Lib.bitLen (Int.toNat y) : Int) = (s : Int) from hs.out])
  go_cut [15, 16] from 67 to 85 (fun s15 s16 wx => s15 = .int .u64 (Q1 : Nat) ∧ w = wx)
  case first =>
    go_wp2_with fail
    have hat := Lib.hid (show ∃ q r : Nat, Value.int IntKind.u64 (qs : Int) = .int .u64 q ∧ Value.int IntKind.u64 (rs : Int) = .int .u64 r ∧ Hid (q * a + r = U) ∧ Q1 ≤ q ∧ q ≤ 4294967297 ∧ r < 4294967296 from ⟨qs, rs, rfl, rfl, hm1, hg1, hq1, hr1⟩)
    go_loop [15, 16] (fun vq vr => ∃ q r : Nat, vq = .int .u64 q ∧ vr = .int .u64 r ∧ Hid (q * a + r = U) ∧ Q1 ≤ q ∧ q ≤ 4294967297 ∧ r < 4294967296) (fun vq _ => (intOf vq).toNat)
    case atStart => exact hat.out
    case round =>
      obtain ⟨q, r, rfl, rfl, hm, hg, hq, hr⟩ := hrel
      have hqb : q * b ≤ 4294967297 * 4294967295 := Nat.mul_le_mul hq (by omega)
      have hmn : ((q * b : Nat) : Int) = (q : Int) * (b : Int) := Int.natCast_mul q b
      have hqb0 : (0 : Int) ≤ (q : Int) * (b : Int) := Int.mul_nonneg (by omega) (by omega)
      have hqb1 : (q : Int) * (b : Int) ≤ 18446744073709551615 := by omega
      have hit := Lib.hid (Knuth.test_iff (u1 := u1) hm.out hY.out rfl)
      have hgo := Lib.hid (Knuth.go_on (q := q) (Y := Y) (N := U * 4294967296 + u1) (by omega))
      have hno := Lib.hid (Knuth.stop_no (q := q) (Y := Y) (N := U * 4294967296 + u1) (by omega) (by rw [← hQ1.out]; exact hg))
      have hlt : Q1 < 4294967296 := by rw [hQ1.out]; exact Knuth.digit_lt hUY rfl hu1
      have key : (4294967296 ≤ q ∨ r * 4294967296 + u1 < q * b) → Q1 ≤ q - 1 ∧ 0 < q := by
        intro c
        rcases c with c | c
        · omega
        · have h1 := hgo.out (hit.out.2 c)
          rw [← hQ1.out] at h1
          have : 0 < q := by
            rcases Nat.eq_zero_or_pos q with h | h
            · subst h; omega
            · exact h
          omega
      have key2 : ¬ (4294967296 ≤ q ∨ r * 4294967296 + u1 < q * b) → q = Q1 := fun c => by rw [hQ1.out]; exact hno.out fun x => c (Or.inr (hit.out.1 x))
      by_cases c : 4294967296 ≤ q ∨ r * 4294967296 + u1 < q * b
      · obtain ⟨k1, k2⟩ := key c
        have hqa := Lib.hid (Knuth.next hm.out k2)
        have hs1 := Lib.hid (fun x => Knuth.stop_far (q := q - 1) (a := a) (r := r + a) (u1 := u1) (by omega) hqa.out hY.out rfl hb (by omega) x (by rw [← hQ1.out]; exact k1))
        have ec : ((q : Int) - 1) = ((q - 1 : Nat) : Int) := by omega
        have hec := Lib.hid ec
        have k3 := Lib.hid k1
        have ea : ((r : Int) + (a : Int)) = ((r + a : Nat) : Int) := by omega
        have hea := Lib.hid ea
        clear key key2 hno hgo hit hm ec ea hqb k1 hg
        have hq' : (q : Int) ≤ 4294967297 := by omega
        have hr' : (r : Int) < 4294967296 := by omega
        have hqp : (1 : Int) ≤ q := by omega
        have hnm : r * 4294967296 + u1 < q * b ∨ 4294967296 ≤ q := c.symm
        clear c
        have c5 : (4294967296 : Int) ≤ q ∨ ((q : Int) < 4294967296 ∧ (4294967296 : Int) * r + u1 < (q : Int) * b) := by omega
        have hqm : q - 1 ≤ 4294967297 := by omega
        clear hnm hmn
        have hrel := Lib.hid (fun (c3 : (r : Int) + a < 4294967296) => (⟨q - 1, r + a, by rw [← hec.out], by rw [← hea.out], hqa, k3.out, hqm, by omega⟩ : ∃ q' r' : Nat, Value.int IntKind.u64 ((q : Int) - 1) = .int .u64 q' ∧ Value.int IntKind.u64 ((r : Int) + a) = .int .u64 r' ∧ Hid (q' * a + r' = U) ∧ Q1 ≤ q' ∧ q' ≤ 4294967297 ∧ r' < 4294967296))
        have hfar := Lib.hid (fun (c3 : ¬ (r : Int) + a < 4294967296) => (show (Value.int IntKind.u64 ((q : Int) - 1)) = .int .u64 (Q1 : Nat) by rw [hQ1.out, ← hs1.out (by omega), ← hec.out]))
        clear hq hr k2 hqm hs1 hec k3 hea hqa
        rcases c5 with c | ⟨c, c'⟩
        · have c0 : ¬ (q : Int) < 4294967296 := by omega
          by_cases c3 : (r : Int) + a < 4294967296
          · have c4 : ¬ (4294967296 : Int) ≤ (r : Int) + a := by omega
            go_wp2
            go_round
            case rel => exact hrel.out c3
            case measure => simp [intOf]; omega
          · have c4 : (4294967296 : Int) ≤ (r : Int) + a := by omega
            go_wp2
            go_meet
            exact ⟨hfar.out c3, rfl⟩
        · have c0 : ¬ (4294967296 : Int) ≤ q := by omega
          by_cases c3 : (r : Int) + a < 4294967296
          · have c4 : ¬ (4294967296 : Int) ≤ (r : Int) + a := by omega
            go_wp2
            go_round
            case rel => exact hrel.out c3
            case measure => simp [intOf]; omega
          · have c4 : (4294967296 : Int) ≤ (r : Int) + a := by omega
            go_wp2
            go_meet
            exact ⟨hfar.out c3, rfl⟩
      · have k := Lib.hid (key2 c)
        have c1 : (q : Int) < 4294967296 := by omega
        have c1' : ¬ (4294967296 : Int) ≤ q := by omega
        have c2' : ¬ (4294967296 : Int) * r + u1 < (q : Int) * b := by omega
        have hr' : (r : Int) < 4294967296 := by omega
        clear key key2 hno hgo hit hm hqb hmn c hg hq hr
        go_wp2
        go_meet
        exact ⟨by rw [← k.out], rfl⟩
  case rest =>
    obtain ⟨rfl, rfl⟩ := hcut
    go_upto_block 2 with fail
    go_cut [16, 18] from 102 to 120 (fun s16 s18 wx => s18 = .int .u64 (Q0 : Nat) ∧ w = wx)
    case first =>
      go_wp2_with fail
      have hat := Lib.hid (show ∃ q r : Nat, Value.int IntKind.u64 (qt : Int) = .int .u64 q ∧ Value.int IntKind.u64 (rt : Int) = .int .u64 r ∧ Hid (q * a + r = R1) ∧ Q0 ≤ q ∧ q ≤ 4294967297 ∧ r < 4294967296 from ⟨qt, rt, rfl, rfl, hm0, hg0, hq0, hr0⟩)
      go_loop [18, 16] (fun vq vr => ∃ q r : Nat, vq = .int .u64 q ∧ vr = .int .u64 r ∧ Hid (q * a + r = R1) ∧ Q0 ≤ q ∧ q ≤ 4294967297 ∧ r < 4294967296) (fun vq _ => (intOf vq).toNat)
      case atStart => exact hat.out
      case round =>
        obtain ⟨q, r, rfl, rfl, hm, hg, hq, hr⟩ := hrel
        have hqb : q * b ≤ 4294967297 * 4294967295 := Nat.mul_le_mul hq (by omega)
        have hmn : ((q * b : Nat) : Int) = (q : Int) * (b : Int) := Int.natCast_mul q b
        have hqb0 : (0 : Int) ≤ (q : Int) * (b : Int) := Int.mul_nonneg (by omega) (by omega)
        have hqb1 : (q : Int) * (b : Int) ≤ 18446744073709551615 := by omega
        have hit := Lib.hid (Knuth.test_iff (u1 := u0) hm.out hY.out rfl)
        have hgo := Lib.hid (Knuth.go_on (q := q) (Y := Y) (N := R1 * 4294967296 + u0) (by omega))
        have hno := Lib.hid (Knuth.stop_no (q := q) (Y := Y) (N := R1 * 4294967296 + u0) (by omega) (by rw [← hQ0.out]; exact hg))
        have hlt : Q0 < 4294967296 := by rw [hQ0.out]; exact Knuth.digit_lt hR1Y rfl hu0
        have key : (4294967296 ≤ q ∨ r * 4294967296 + u0 < q * b) → Q0 ≤ q - 1 ∧ 0 < q := by
          intro c
          rcases c with c | c
          · omega
          · have h1 := hgo.out (hit.out.2 c)
            rw [← hQ0.out] at h1
            have : 0 < q := by
              rcases Nat.eq_zero_or_pos q with h | h
              · subst h; omega
              · exact h
            omega
        have key2 : ¬ (4294967296 ≤ q ∨ r * 4294967296 + u0 < q * b) → q = Q0 := fun c => by rw [hQ0.out]; exact hno.out fun x => c (Or.inr (hit.out.1 x))
        by_cases c : 4294967296 ≤ q ∨ r * 4294967296 + u0 < q * b
        · obtain ⟨k1, k2⟩ := key c
          have hqa := Lib.hid (Knuth.next hm.out k2)
          have hs1 := Lib.hid (fun x => Knuth.stop_far (q := q - 1) (a := a) (r := r + a) (u1 := u0) (by omega) hqa.out hY.out rfl hb (by omega) x (by rw [← hQ0.out]; exact k1))
          have ec : ((q : Int) - 1) = ((q - 1 : Nat) : Int) := by omega
          have hec := Lib.hid ec
          have k3 := Lib.hid k1
          have ea : ((r : Int) + (a : Int)) = ((r + a : Nat) : Int) := by omega
          have hea := Lib.hid ea
          clear key key2 hno hgo hit hm ec ea hqb k1 hg
          have hq' : (q : Int) ≤ 4294967297 := by omega
          have hr' : (r : Int) < 4294967296 := by omega
          have hqp : (1 : Int) ≤ q := by omega
          have hnm : r * 4294967296 + u0 < q * b ∨ 4294967296 ≤ q := c.symm
          clear c
          have c5 : (4294967296 : Int) ≤ q ∨ ((q : Int) < 4294967296 ∧ (4294967296 : Int) * r + u0 < (q : Int) * b) := by omega
          have hqm : q - 1 ≤ 4294967297 := by omega
          clear hnm hmn
          have hrel := Lib.hid (fun (c3 : (r : Int) + a < 4294967296) => (⟨q - 1, r + a, by rw [← hec.out], by rw [← hea.out], hqa, k3.out, hqm, by omega⟩ : ∃ q' r' : Nat, Value.int IntKind.u64 ((q : Int) - 1) = .int .u64 q' ∧ Value.int IntKind.u64 ((r : Int) + a) = .int .u64 r' ∧ Hid (q' * a + r' = R1) ∧ Q0 ≤ q' ∧ q' ≤ 4294967297 ∧ r' < 4294967296))
          have hfar := Lib.hid (fun (c3 : ¬ (r : Int) + a < 4294967296) => (show (Value.int IntKind.u64 ((q : Int) - 1)) = .int .u64 (Q0 : Nat) by rw [hQ0.out, ← hs1.out (by omega), ← hec.out]))
          clear hq hr k2 hqm hs1 hec k3 hea hqa
          rcases c5 with c | ⟨c, c'⟩
          · have c0 : ¬ (q : Int) < 4294967296 := by omega
            by_cases c3 : (r : Int) + a < 4294967296
            · have c4 : ¬ (4294967296 : Int) ≤ (r : Int) + a := by omega
              go_wp2
              go_round
              case rel => exact hrel.out c3
              case measure => simp [intOf]; omega
            · have c4 : (4294967296 : Int) ≤ (r : Int) + a := by omega
              go_wp2
              go_meet
              exact ⟨hfar.out c3, rfl⟩
          · have c0 : ¬ (4294967296 : Int) ≤ q := by omega
            by_cases c3 : (r : Int) + a < 4294967296
            · have c4 : ¬ (4294967296 : Int) ≤ (r : Int) + a := by omega
              go_wp2
              go_round
              case rel => exact hrel.out c3
              case measure => simp [intOf]; omega
            · have c4 : (4294967296 : Int) ≤ (r : Int) + a := by omega
              go_wp2
              go_meet
              exact ⟨hfar.out c3, rfl⟩
        · have k := Lib.hid (key2 c)
          have c1 : (q : Int) < 4294967296 := by omega
          have c1' : ¬ (4294967296 : Int) ≤ q := by omega
          have c2' : ¬ (4294967296 : Int) * r + u0 < (q : Int) * b := by omega
          have hr' : (r : Int) < 4294967296 := by omega
          clear key key2 hno hgo hit hm hqb hmn c hg hq hr
          go_wp2
          go_meet
          exact ⟨by rw [← k.out], rfl⟩
    case rest =>
      obtain ⟨rfl, rfl⟩ := hcut
      go_wp2
      go_ret2
      exact ⟨rfl, rfl⟩

theorem bitLen_spec : ∀ (n x : Nat), x ≤ n → x < 18446744073709551616 → x < 2 ^ Lib.bitLen x ∧ 2 ^ Lib.bitLen x ≤ 2 * x + (if x = 0 then 1 else 0)
  | 0, x, hx, _ => by
    have : x = 0 := by omega
    subst this
    decide
  | n + 1, x, hx, hl => by
    by_cases h0 : x = 0
    · subst h0; decide
    · have ih := bitLen_spec n (x / 2) (by omega) (by omega)
      rw [Lib.bitLen_half x h0 (by omega), Nat.add_comm 1, Nat.pow_succ, if_neg h0]
      by_cases h1 : x / 2 = 0
      · have : x = 1 := by omega
        subst this; decide
      · rw [if_neg h1] at ih
        omega

/-- The arithmetic of the wrapped rest. -/
theorem rest_wrap (U u Q Y R N : Nat) (hN : N = U * 4294967296 + u) (hQ : Q = N / Y) (hR : R = N % Y) (hRl : R < 18446744073709551616) :
    IntKind.u64.wrap (IntKind.u64.wrap (IntKind.u64.wrap ((U : Int) * 4294967296) + (u : Int)) - IntKind.u64.wrap ((Q : Int) * (Y : Int))) = (R : Int) := by
  have h := Nat.div_add_mod N Y
  rw [← hQ, ← hR, Nat.mul_comm] at h
  have h' : (Q : Int) * (Y : Int) + (R : Int) = (N : Int) := by rw [← h]; simp
  simp only [IntKind.wrap_u64]
  generalize (Q : Int) * (Y : Int) = z at *
  omega

theorem guess_wrap (U a : Nat) (hU : U < 18446744073709551616) :
    IntKind.u64.wrap ((U : Int) / (a : Int)) = ((U / a : Nat) : Int) ∧ IntKind.u64.wrap ((U : Int) - IntKind.u64.wrap (((U / a : Nat) : Int) * (a : Int))) = ((U % a : Nat) : Int) := by
  have hd := Nat.div_add_mod U a
  have hle := Nat.div_le_self U a
  refine ⟨?_, ?_⟩
  · rw [show (U : Int) / (a : Int) = ((U / a : Nat) : Int) from rfl]; exact Mul64.wrapN _ (by omega)
  · have e : ((U / a : Nat) : Int) * (a : Int) + ((U % a : Nat) : Int) = (U : Int) := by
      rw [← Int.natCast_mul, ← Int.natCast_add, Nat.mul_comm, hd]
    have hr := Nat.mod_le U a
    generalize U % a = r at *
    generalize ((U / a : Nat) : Int) * (a : Int) = z at *
    simp only [IntKind.wrap_u64]
    omega

theorem div64_pos (h l y : Nat) (hy : y < 18446744073709551616) (hl : l < 18446744073709551616) (hh : h < y) (h0 : 0 < h) (w : World) :
    Calls Try.prog 89 #[.int .u64 h, .int .u64 l, .int .u64 y] w fun e w' => e = .returned (.tuple #[.int .u64 (((h * 18446744073709551616 + l) / y : Nat) : Int), .int .u64 (((h * 18446744073709551616 + l) % y : Nat) : Int)]) ∧ w = w' := by
  have hb := Lib.bitLen_le y 64 (by omega) (by omega)
  obtain ⟨hsp1, hsp2⟩ := bitLen_spec y y (Nat.le_refl _) hy
  rw [if_neg (by omega)] at hsp2
  obtain ⟨s, hs⟩ : ∃ s : Nat, s + Lib.bitLen y = 64 := ⟨64 - Lib.bitLen y, by omega⟩
  have hpos : 0 < Lib.bitLen y := by
    rcases Nat.eq_zero_or_pos (Lib.bitLen y) with e | e
    · rw [e] at hsp1; omega
    · exact e
  have hp : 2 ^ Lib.bitLen y * 2 ^ s = 18446744073709551616 := by rw [← Nat.pow_add, Nat.add_comm, hs]
  have h2s : 0 < 2 ^ s := Nat.two_pow_pos s
  -- the divisor, moved up
  obtain ⟨Y, eY⟩ : ∃ Y, Y = y * 2 ^ s := ⟨_, rfl⟩
  have hY1 : Y < 18446744073709551616 := by rw [eY, ← hp]; exact Nat.mul_lt_mul_of_pos_right hsp1 h2s
  have hY2 : 18446744073709551616 ≤ 2 * Y := by rw [eY, ← hp, ← Nat.mul_assoc]; exact Nat.mul_le_mul_right _ (by omega)
  -- the dividend, moved up: three digits
  obtain ⟨L, eL⟩ : ∃ L, L = l * 2 ^ s % 18446744073709551616 := ⟨_, rfl⟩
  obtain ⟨U, eU⟩ : ∃ U, U = h * 2 ^ s + l / 2 ^ (64 - s) := ⟨_, rfl⟩
  have hq : l * 2 ^ s / 18446744073709551616 = l / 2 ^ (64 - s) := by
    have : (18446744073709551616 : Nat) = 2 ^ (64 - s) * 2 ^ s := by rw [← Nat.pow_add]; rw [show 64 - s + s = 64 by omega]
    rw [this]; exact Nat.mul_div_mul_right _ _ h2s
  have hN : (h * 18446744073709551616 + l) * 2 ^ s = U * 18446744073709551616 + L := by
    have := Nat.div_add_mod (l * 2 ^ s) 18446744073709551616
    rw [hq, ← eL] at this
    rw [Nat.add_mul, eU, Nat.add_mul, Nat.mul_right_comm]
    omega
  have hUY : U < Y := by
    have h1 : (h * 18446744073709551616 + l + 1) * 2 ^ s ≤ y * 18446744073709551616 * 2 ^ s := Nat.mul_le_mul_right _ (by omega)
    rw [Nat.add_mul, hN, Nat.mul_right_comm, ← eY] at h1
    omega
  have hlq : l / 2 ^ (64 - s) < 2 ^ s := by
    rw [Nat.div_lt_iff_lt_mul (Nat.two_pow_pos _), ← Nat.pow_add, show s + (64 - s) = 64 by omega]; exact hl
  have hhs : h * 2 ^ s < 18446744073709551616 := by
    have : h * 2 ^ s ≤ y * 2 ^ s := Nat.mul_le_mul_right _ (by omega)
    omega
  have hLl : L < 18446744073709551616 := by rw [eL]; exact Nat.mod_lt _ (by omega)
  have ha : 2147483648 ≤ Y / 4294967296 := by omega
  have cast2 : ((2 : Int) ^ s) = ((2 ^ s : Nat) : Int) := by simp
  have cast3 : ((2 : Int) ^ (64 - s)) = ((2 ^ (64 - s) : Nat) : Int) := by simp
  have r1 : IntKind.u64.wrap ((y : Int) * 2 ^ s) = (Y : Int) := by
    rw [cast2, ← Int.natCast_mul, ← eY]; exact Mul64.wrapN _ hY1
  have r3 : bits .or .u64 (IntKind.u64.wrap ((h : Int) * 2 ^ s)) ((l : Int) / 2 ^ (64 - s)) = (U : Int) := by
    have e1 : (l : Int) / ((2 ^ (64 - s) : Nat) : Int) = ((l / 2 ^ (64 - s) : Nat) : Int) := rfl
    rw [cast2, ← Int.natCast_mul, Mul64.wrapN _ hhs, cast3, e1, bits_or_u64_nat _ _ hhs (by omega), eU, Nat.mul_comm h, Nat.two_pow_add_eq_or_of_lt hlq]
  have r4 : IntKind.u64.wrap ((l : Int) * 2 ^ s) = (L : Int) := by
    rw [cast2, ← Int.natCast_mul, eL]; exact Mul64.wrapM _
  have hU64 : U < 18446744073709551616 := by omega
  have hYp : 0 < Y := by omega
  have hYs : Y = Y / 4294967296 * 4294967296 + Y % 4294967296 := by omega
  have hr1 := Nat.mod_lt (U * 4294967296 + L / 4294967296) hYp
  have d1 := Knuth.digit_lt (B := 4294967296) (u1 := L / 4294967296) hUY rfl (by omega)
  have d0 := Knuth.digit_lt (B := 4294967296) (U := (U * 4294967296 + L / 4294967296) % Y) (u1 := L % 4294967296) hr1 rfl (by omega)
  have td := Knuth.two_digits (H := U) (u1 := L / 4294967296) (u0 := L % 4294967296) (B := 4294967296) (Y := Y) hYp
  have eN : U * (4294967296 * 4294967296) + L / 4294967296 * 4294967296 + L % 4294967296 = (h * 18446744073709551616 + l) * 2 ^ s := by rw [hN]; omega
  rw [eN] at td
  have sh := Knuth.shifted (x := h * 18446744073709551616 + l) (y := y) h2s
  rw [← eY] at sh
  have wU := guess_wrap U (Y / 4294967296) hU64
  have wR := guess_wrap ((U * 4294967296 + L / 4294967296) % Y) (Y / 4294967296) (by omega)
  have hmU := Nat.div_add_mod U (Y / 4294967296)
  have hmR := Nat.div_add_mod ((U * 4294967296 + L / 4294967296) % Y) (Y / 4294967296)
  have hmU' := Nat.mod_lt U (show 0 < Y / 4294967296 by omega)
  have hmR' := Nat.mod_lt ((U * 4294967296 + L / 4294967296) % Y) (show 0 < Y / 4294967296 by omega)
  have hgU := Knuth.guess_hi (U := U) ha (by omega) hYs hUY
  have hgR := Knuth.guess_hi (U := (U * 4294967296 + L / 4294967296) % Y) ha (by omega) hYs hr1
  have hlU := Knuth.guess_le (U := U) (u1 := L / 4294967296) (by omega) hYs rfl (by omega)
  have hlR := Knuth.guess_le (U := (U * 4294967296 + L / 4294967296) % Y) (u1 := L % 4294967296) (by omega) hYs rfl (by omega)
  refine (div64_core h l y s Y (Y / 4294967296) (Y % 4294967296) U L (L / 4294967296) (L % 4294967296)
    ((U * 4294967296 + L / 4294967296) / Y) ((U * 4294967296 + L / 4294967296) % Y)
    (((U * 4294967296 + L / 4294967296) % Y * 4294967296 + L % 4294967296) / Y) (((U * 4294967296 + L / 4294967296) % Y * 4294967296 + L % 4294967296) % Y)
    (U / (Y / 4294967296)) (U % (Y / 4294967296)) (((U * 4294967296 + L / 4294967296) % Y) / (Y / 4294967296)) (((U * 4294967296 + L / 4294967296) % Y) % (Y / 4294967296))
    hy hh h0 (by omega) (Lib.hid (by omega)) r1 (Mul64.maskN Y hY1) r3 r4 (Mul64.maskN L hLl) (Mul64.divN Y) (Mul64.divN L)
    (rest_wrap _ _ _ _ _ _ rfl rfl rfl (Nat.lt_trans (Nat.mod_lt _ hYp) hY1)) (rest_wrap _ _ _ _ _ _ rfl rfl rfl (Nat.lt_trans (Nat.mod_lt _ hYp) hY1))
    wU.1 wU.2 wR.1 wR.2 (Lib.hid (by rw [Nat.mul_comm]; exact hmU)) hlU hgU (by omega) (Lib.hid (by rw [Nat.mul_comm]; exact hmR)) hlR hgR (by omega)
    ha (by omega) (by omega) (by omega) (by omega) hUY hr1 (Lib.hid hYs) (Lib.hid rfl) (Lib.hid rfl) d1 d0 w).mono ?_
  rintro e w' ⟨rfl, rfl⟩
  refine ⟨?_, rfl⟩
  rw [td.1, td.2, sh.1, cast2, ← Int.natCast_ediv, sh.2]

/-- Where the upper half is 0: two divisions of 64 bits, in an order that Go leaves open. -/
theorem div64_low (l y : Nat) (hy : y < 18446744073709551616) (hl : l < 18446744073709551616) (hh : 0 < y) (w : World) :
    Calls Try.prog 89 #[.int .u64 0, .int .u64 l, .int .u64 y] w fun e w' => e = .returned (.tuple #[.int .u64 ((l / y : Nat) : Int), .int .u64 ((l % y : Nat) : Int)]) ∧ ∃ n, w.drewN n = w' := by
  have e1 : IntKind.u64.wrap ((l : Int) / (y : Int)) = ((l / y : Nat) : Int) := by
    rw [show (l : Int) / (y : Int) = ((l / y : Nat) : Int) from rfl]; exact Mul64.wrapN _ (by have := Nat.div_le_self l y; omega)
  have e2 : (l : Int) % (y : Int) = ((l % y : Nat) : Int) := rfl
  have h1 : ((y : Int) == 0) = false := by simp; omega
  have h2 : ¬ (y : Int) ≤ 0 := by omega
  go_enter Try.func89, Try.ntmps89
  go_wp2
  go_quiet (fail)
  go_wp2
  go_ret2
  exact ⟨rfl, _, rfl⟩
end Go.Proofs.Ytcgblbbadbkdgaa
