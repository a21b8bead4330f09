/-
  Contract of the document's answer for lengths: the floor of a quotient of two numbers of any size.
-/
import Derived.Test.YtjjaeloamogfdaaMul
import Derived.Test.YtjjaeloamogfdaaFloor
namespace Go.Proofs.Ytjjaeloamogfdaa
open Go.RowKit

/-- The floor of a quotient. -/
def divI (x y : Int) : Int := if 0 < y then x / y else -x / -y

theorem divI_sgn (m1 m2 : Bool) (al bl : List Bool) (h : 0 < Dg.val bl) : divI (sgn m1 al) (sgn m2 bl) = qS (m1 != m2) (Dg.val al / Dg.val bl) (Dg.val al % Dg.val bl) := by
  unfold divI sgn
  cases m1 <;> cases m2
  · simp [qS, h]
  · rw [if_neg (by simp)]
    simp only [if_true, Bool.false_eq_true, if_false, Int.neg_neg, qS, show (false != true) = true from rfl]
    exact floor_neg _ _ h
  · rw [if_pos (by simp; omega)]
    simp only [if_true, Bool.false_eq_true, if_false, qS, show (true != false) = true from rfl]
    exact floor_neg _ _ h
  · rw [if_neg (by simp)]; simp [qS]

structure DivInv (w0 : World) (m1 m2 : Bool) (v1 v2 : Value) (n : Nat) (al bl : List Bool) (p : Nat) (O : List Bool) (E : Option Addr) (ne ce : Nat) (l : List Bool) (wr : World) : Prop where
  b1 : BCell wr w0.heap.size (.bool m1) v1
  b2 : BCell wr (w0.heap.size + 1) (.bool m2) v2
  b3 : BCell wr (w0.heap.size + 2) (.bool false) (.slice none 0 0)
  own : wr.ownsRow (w0.heap.size + 3) 4 1 (.slice (some ⟨w0.heap.size + 3, 0, none⟩) n n) n (O.map Value.bool)
  ol : O.length = n
  low : ∀ j, j < p → O.getD j false = false
  sl : SlB wr E ne ce l
  fr : Fresh (w0.heap.size + 4) E
  val : Dg.val (al.drop p) = Dg.val (O.drop p) * Dg.val bl + Dg.val l
  lt : Dg.val l < Dg.val bl
  len : ne + p ≤ n
  bw : Below w0.heap.size w0 wr

def DivInv' (w0 : World) (m1 m2 : Bool) (v1 v2 : Value) (n : Nat) (al bl : List Bool) (p : Nat) (r : Value) (wr : World) : Prop := ∃ O E ne ce l, r = .slice E ne ce ∧ DivInv w0 m1 m2 v1 v2 n al bl p O E ne ce l wr

theorem divinv_start (w : World) (m1 m2 : Bool) (v1 v2 : Value) (n : Nat) (al bl : List Bool) (hn : n = al.length) (hl : n ≤ 20000) (h : 0 < Dg.val bl) :
    DivInv' w m1 m2 v1 v2 n al bl n (.slice none 0 0) ((((w.alloc (.cells #[.bool m1, v1] 58)).alloc (.cells #[.bool m2, v2] 58)).alloc (.cells #[.bool false, .slice none 0 0] 58)).alloc (zeros n)) := by
  obtain ⟨b1, b2, b3, hb, hs⟩ := box_facts w (.bool m1) v1 (.bool m2) v2 (.bool false) (.slice none 0 0) _ rfl
  refine ⟨List.replicate n false, none, 0, 0, [], rfl, b1.alloc _, b2.alloc _, b3.alloc _, ?_, by simp, fun j _ => by simp [List.getD, List.getElem?_replicate]; split <;> rfl, slb_nil _, fun a h => (by cases h), ?_, by simpa [Dg.val] using h, by omega, hb.alloc hb.size _⟩
  · have := zeros_own (((w.alloc (.cells #[.bool m1, v1] 58)).alloc (.cells #[.bool m2, v2] 58)).alloc (.cells #[.bool false, .slice none 0 0] 58)) n (w.heap.size + 3) (by rw [hs]; exact Nat.le_refl _) (by omega)
    rw [hs] at this
    exact this
  · rw [List.drop_of_length_le (by omega), List.drop_of_length_le (by simp)]; simp [Dg.val]

theorem div_math {p : Nat} {al bl O l : List Bool} (low : O.getD p false = false) (val : Dg.val (al.drop (p + 1)) = Dg.val (O.drop (p + 1)) * Dg.val bl + Dg.val l) :
    Dg.val (al.drop p) = Dg.val (O.drop p) * Dg.val bl + Dg.val ([al.getD p false] ++ l) := by
  rw [Dg.val_drop al p, val, Dg.val_drop O p]
  have e1 : Dg.dig O p = 0 := by unfold Dg.dig; rw [low]; rfl
  have e2 : Dg.val ([al.getD p false] ++ l) = Dg.dig al p + 2 * Dg.val l := rfl
  rw [e1, e2, Nat.zero_add, Nat.mul_assoc 2]
  omega

theorem drop_set_val {O : List Bool} {p : Nat} (hp : p < O.length) (low : O.getD p false = false) : Dg.val ((O.set p true).drop p) = Dg.val (O.drop p) + 1 ∧ Dg.val ((O.set p true).drop (p + 1)) = Dg.val (O.drop (p + 1)) := by
  have e1 : (O.set p true).drop (p + 1) = O.drop (p + 1) := by rw [List.drop_set]; simp
  have e2 : Dg.dig (O.set p true) p = 1 := by unfold Dg.dig; simp [List.getD, hp, Dg.b2n]
  have e3 : Dg.dig O p = 0 := by unfold Dg.dig; rw [low]; rfl
  refine ⟨?_, by rw [e1]⟩
  rw [Dg.val_drop, Dg.val_drop O, e1, e2, e3]; omega

theorem divinv_own {w0 wr w' : World} {m1 m2 : Bool} {v1 v2 : Value} {n p : Nat} {al bl O l : List Bool} {E : Option Addr} {ne ce : Nat} (h : DivInv w0 m1 m2 v1 v2 n al bl p O E ne ce l wr) (hb : Below wr.heap.size wr w') :
    w'.ownsRow (w0.heap.size + 3) 4 1 (.slice (some ⟨w0.heap.size + 3, 0, none⟩) n n) n (O.map Value.bool) := by
  have hlt3 : w0.heap.size + 3 < wr.heap.size := (h.own.lt (w0.heap.size + 3) rfl).2
  refine ⟨h.own.1, ?_⟩
  rcases h.own.2 with h1 | ⟨g, cap, cur, h1, h2, h3, h4⟩
  · exact Or.inl h1
  · have hg : g = w0.heap.size + 3 := by simp at h1; omega
    exact Or.inr ⟨g, cap, cur, h1, h2, (hb.block g (by omega)).trans h3, h4⟩

theorem divinv_cell {w0 wr w' : World} {m1 m2 : Bool} {v1 v2 : Value} {n p : Nat} {al bl O l : List Bool} {E : Option Addr} {ne ce : Nat} (h : DivInv w0 m1 m2 v1 v2 n al bl (p + 1) O E ne ce l wr) (hp : p < n) (hb : Below wr.heap.size wr w') :
    w'.cell? ⟨w0.heap.size + 3, p, none⟩ = some (.bool false) ∧ w'.frozen? ⟨w0.heap.size + 3, p, none⟩ = false := by
  have hown := divinv_own h hb
  refine ⟨?_, hown.frozenAt p⟩
  rw [hown.cellAt p (by omega)]
  have hlow := h.low p (by omega)
  have hpO : p < O.length := by rw [h.ol]; exact hp
  rw [List.getD_eq_getElem?_getD, List.getElem?_eq_getElem hpO] at hlow
  simp [List.getElem?_map, List.getElem?_eq_getElem hpO]
  simpa using hlow

theorem divinv_less {w0 wr w' : World} {m1 m2 : Bool} {v1 v2 : Value} {n p : Nat} {al bl O l : List Bool} {E E' : Option Addr} {ne ce ce' : Nat} (h : DivInv w0 m1 m2 v1 v2 n al bl (p + 1) O E ne ce l wr)
    (hb : Below wr.heap.size wr w') (hS : SlB w' E' (1 + ne) ce' ([al.getD p false] ++ l)) (hf : Fresh wr.heap.size E') (hlt : Dg.val ([al.getD p false] ++ l) < Dg.val bl) :
    DivInv' w0 m1 m2 v1 v2 n al bl p (.slice E' (1 + ne) ce') w' := by
  have hlt3 : w0.heap.size + 3 < wr.heap.size := (h.own.lt (w0.heap.size + 3) rfl).2
  have hown := divinv_own h hb
  exact ⟨O, E', 1 + ne, ce', _, rfl, h.b1.below hb h.b1.lt, h.b2.below hb h.b2.lt, h.b3.below hb h.b3.lt, hown, h.ol, fun j hj => h.low j (by omega), hS, hf.mono (by omega), div_math (h.low p (by omega)) h.val, hlt, by have := h.len; omega, h.bw.trans (hb.mono h.bw.size)⟩

theorem divinv_more {w0 wr w' : World} {m1 m2 : Bool} {v1 v2 : Value} {n p : Nat} {al bl O l l' : List Bool} {E E' : Option Addr} {ne ce n' ce' : Nat} (h : DivInv w0 m1 m2 v1 v2 n al bl (p + 1) O E ne ce l wr) (hp : p < al.length) (hn : n = al.length)
    (hb : Below wr.heap.size wr w') (hS : SlB w' E' n' ce' l') (hf : Fresh wr.heap.size E') (hge : Dg.val bl ≤ Dg.val ([al.getD p false] ++ l)) (hv : Dg.val l' = Dg.val ([al.getD p false] ++ l) - Dg.val bl) (hn' : n' ≤ 1 + ne) :
    DivInv' w0 m1 m2 v1 v2 n al bl p (.slice E' n' ce') (w'.setCell ⟨w0.heap.size + 3, p, none⟩ (.bool true)) := by
  have hlt3 : w0.heap.size + 3 < wr.heap.size := (h.own.lt (w0.heap.size + 3) rfl).2
  have hown := divinv_own h hb
  have hst := (hown.stored p (.bool true)).1
  have hlow : O.getD p false = false := h.low p (by omega)
  have hpO : p < O.length := by rw [h.ol, hn]; exact hp
  refine ⟨O.set p true, E', n', ce', l', rfl, (h.b1.below hb h.b1.lt).setOther _ (by simp) _, (h.b2.below hb h.b2.lt).setOther _ (by simp) _, (h.b3.below hb h.b3.lt).setOther _ (by simp) _, ?_, by simp [h.ol], ?_,
    hS.setOther _ (fun a ha => by have := hf a ha; show _ ≠ w0.heap.size + 3; omega) _, hf.mono (by omega), ?_, ?_, by have := h.len; omega, (h.bw.trans (hb.mono h.bw.size)).setCell (by simp) _⟩
  · rw [List.map_set]; exact hst
  · intro j hj
    have := h.low j (by omega)
    simpa [List.getD, List.getElem?_set, show ¬ p = j by omega] using this
  · have hm := div_math hlow h.val
    rw [(drop_set_val hpO hlow).1, hv, Nat.add_mul]
    omega
  · rw [hv]
    have e2 : Dg.val ([al.getD p false] ++ l) = Dg.dig al p + 2 * Dg.val l := rfl
    have := Dg.dig_le al p
    have := h.lt
    omega

set_option maxRecDepth 100000 in
set_option maxHeartbeats 1200000 in
theorem div_any0 (m1 m2 : Bool) (A C : Option Addr) (n k cA cC : Nat) (al bl : List Bool) (w : World) (hSA : Hid (SlB w A n cA al)) (hSC : Hid (SlB w C k cC bl)) (hl : n ≤ 10000) (hl2 : k ≤ 10000) (hB : Hid (0 < Dg.val bl)) :
    Calls Try.prog 61 #[.agg #[.bool m1, .slice A n cA], .agg #[.bool m2, .slice C k cC]] w fun e w' => MadeBig w (divI (sgn m1 al) (sgn m2 bl)) (max n 64 + 1) e w' := by
  have hst := Lib.hid (divinv_start w m1 m2 (.slice A n cA) (.slice C k cC) n al bl hSA.out.len (by omega) hB.out)
  have hmk := mk_bools n (by omega)
  go_enter Try.func61, Try.ntmps61
  go_wp2_with fail
  clear hmk
  go_loopw [5, 7] (fun r i wr => ∃ i' : Int, i = .int .i64 i' ∧ -1 ≤ i' ∧ i' < n ∧ Hid (DivInv' w m1 m2 (.slice A n cA) (.slice C k cC) n al bl (i' + 1).toNat r wr)) (fun _ i _ => (intOf i + 1).toNat)
  case atStart => exact ⟨_, rfl, by omega, by omega, by rw [show ((n : Int) - 1 + 1).toNat = n by omega]; exact hst⟩
  case round =>
    obtain ⟨i, rfl, hi1, hi2, hinv0⟩ := hrel
    obtain ⟨O, E, ne, ce, l, rfl, hinv⟩ := hinv0.out
    clear hinv0
    by_cases hi : 0 ≤ i
    · obtain ⟨j, rfl⟩ := Int.eq_ofNat_of_zero_le hi
      rw [show ((j : Int) + 1).toNat = j + 1 by omega] at hinv
      have c1 := hinv.b1.c1
      have c2 := hinv.b2.c1
      obtain ⟨a, rfl, hab, hac⟩ := hSA.out.bits (by rw [← hSA.out.len]; omega)
      have hc := hinv.bw.cell (p := a.add j) (by rw [add_block]; exact hab)
      rw [hac j (by rw [← hSA.out.len]; omega)] at hc
      clear hac
      have hjl : Hid (j < al.length) := Lib.hid (by rw [← hSA.out.len]; omega)
      obtain ⟨t, ht⟩ : ∃ t, Hid (al.getD j false = t) := ⟨_, Lib.hid rfl⟩
      rw [ht.out] at hc
      have hlen := hinv.len
      have hA0 := (Below.refl wr.heap.size wr).alloc (Nat.le_refl _) (.cells #[.bool t] 4)
      have own0 := Lib.hid (World.ownsRow_lit (base := wr.heap.size) (e := 4) (size := 1) wr #[.bool t] 1 (Nat.le_refl _) (by decide) rfl)
      have hS0 := Lib.hid (hinv.sl.keep hA0)
      have hsz2 := hinv.b2.lt
      go_wp2_with (at_builtin; refine append_bits rfl (.tmp 26) (.tmp 27) rfl wr.heap.size _ 1 [t] rfl own0.out _ E ne ce l rfl hS0.out.nil (Lib.hid hS0.out.len) hS0.out.bits (by omega) (by simp) ?_; intro v1 u1 hown1 hgr1; have hb1 := hA0.grown hgr1 (by simp) (fun q hq => (own0.out.lt q hq).1); have e2 := (hinv.b2.below hb1 hsz2).c1; obtain ⟨A1, cc1, rfl, hI1, hf1⟩ := bits_own hown1)
      have hI1' := Lib.hid hI1
      have hSC1 := Lib.hid (hSC.out.keep (hinv.bw.trans (hb1.mono hinv.bw.size)))
      have ht2 : Hid ([t] ++ l = [al.getD j false] ++ l) := Lib.hid (by rw [ht.out])
      refine (less_any A1 C (1 + ne) k cc1 cC _ _ ([t] ++ l) bl _ (Lib.hid hI1'.out.bits) (Lib.hid hSC1.out.bits) (Lib.hid hI1'.out.len) (Lib.hid hSC1.out.len) (by omega) (by omega)).mono ?_
      rintro e w' ⟨rfl, rfl⟩
      rcases hd : decide (Dg.val ([t] ++ l) < Dg.val bl) with _ | _
      · have hd' := Lib.hid hd
        clear hd
        go_wp2_with fail
        have hge : Hid (Dg.val bl ≤ Dg.val ([t] ++ l)) := Lib.hid (by have := of_decide_eq_false hd'.out; omega)
        refine (minus_any A1 C (1 + ne) k cc1 cC ([t] ++ l) bl _ hI1' hSC1 (by omega) (by omega) hge).mono ?_
        rintro e u2 ⟨E2, k2, cc2, l2, rfl, hk2, hv2', hS2, hb2, hfr2⟩
        have hv2 := Lib.hid hv2'
        clear hv2'
        have hfd := big_field
        go_wp2_with fail
        refine (short_any false E2 k2 cc2 l2 _ (Lib.hid hS2) (by omega)).mono ?_
        rintro e u3 ⟨mi3, k3, l3, rfl, hk3, hv3', ht3, hS3, hb3⟩
        have hv3 : Hid (Dg.val l3 = Dg.val l2) := Lib.hid (by have := hv3'; unfold sgn at this; split at this <;> simp at this <;> omega)
        clear hv3'
        have hb13 := (hb1.trans (hb2.mono hb1.size)).trans (hb3.mono (Nat.le_trans hb1.size hb2.size))
        obtain ⟨x0, x1⟩ := divinv_cell hinv (by omega) hb13
        have hnew := Lib.hid (divinv_more hinv hjl.out hSA.out.len hb13 hS3 (hfr2.mono hb1.size) (by rw [← ht2.out]; exact hge.out) (by rw [hv3.out, hv2.out, ← ht2.out]) (by omega))
        have hji : (j : Int) < (n : Int) := by omega
        clear hb1 e2 hown1 hgr1 hI1 hf1 hA0 c1 c2 hc hS2 hfr2 hb2 hb3 hS3 hb13
        go_wp2_with fail
        go_roundw
        case rel => exact ⟨_, rfl, by omega, by omega, by rw [show ((j : Int) - 1 + 1).toNat = j by omega]; exact hnew⟩
        case measure => simp [intOf]
      · have hnew := Lib.hid (divinv_less hinv hb1 (by rw [← ht2.out]; exact hI1) hf1 (by rw [← ht2.out]; exact of_decide_eq_true hd))
        clear hd
        clear hb1 e2 hown1 hgr1 hI1 hf1 hA0 c1 c2 hc
        go_wp2_with fail
        go_roundw
        case rel => exact ⟨_, rfl, by omega, by omega, by rw [show ((j : Int) - 1 + 1).toNat = j by omega]; exact hnew⟩
        case measure => simp [intOf]
    · have hi' : i = -1 := by omega
      subst hi'
      rw [show ((-1 : Int) + 1).toNat = 0 from rfl] at hinv
      obtain ⟨A0, c0, hv0, hSO, -⟩ := bits_own hinv.own
      obtain ⟨ea0, ec0⟩ : A0 = some ⟨w.heap.size + 3, 0, none⟩ ∧ c0 = n := by simp at hv0; exact ⟨hv0.1.symm, hv0.2.symm⟩
      rw [ea0, ec0] at hSO
      clear hv0 ea0 ec0
      have hres : Hid (divI (sgn m1 al) (sgn m2 bl) = qS (m1 != m2) (Dg.val O) (Dg.val l)) := by
        refine Lib.hid ?_
        have h1 := hinv.val
        have h2 := hinv.lt
        rw [List.drop_zero, List.drop_zero] at h1
        rw [divI_sgn m1 m2 al bl hB.out, h1, Nat.mul_comm, Nat.mul_add_div hB.out, Nat.div_eq_of_lt h2, Nat.mul_add_mod, Nat.mod_eq_of_lt h2, Nat.add_zero]
      have hS := Lib.hid hSO
      have hlen := hinv.len
      have hfr := hinv.fr
      have hSl := Lib.hid hinv.sl
      have b3 := hinv.b3
      have hbw := Lib.hid hinv.bw
      have d1 := hinv.b1.c0
      have d2 := hinv.b2.c0
      clear hi hi1 hi2 hSO
      cases m1 <;> cases m2
      · go_wp2_with fail
        refine (short_any _ _ n n O _ hS (by omega)).mono ?_
        rintro e u2 ⟨mi2, k5, l2, rfl, hk5, hv5', ht5, hS5, hb5⟩
        have hv5 := Lib.hid hv5'
        clear hv5'
        have hA1 := (Below.refl u2.heap.size u2).alloc (Nat.le_refl _) (.cells #[.bool mi2, .slice (some ⟨w.heap.size + 3, 0, none⟩) k5 n] 58)
        have hb15 := hb5.trans (hA1.mono hb5.size)
        have d3 := (hb15.cell (p := ⟨w.heap.size, 0, none⟩) hinv.b1.lt).trans hinv.b1.c0
        have d4 := (hb15.cell (p := ⟨w.heap.size + 1, 0, none⟩) hinv.b2.lt).trans hinv.b2.c0
        have b3' := b3.below hb15 b3.lt
        have b8 := BCell.new u2 (.bool mi2) (.slice (some ⟨w.heap.size + 3, 0, none⟩) k5 n) 58
        have hS6 := hS5.keep hA1
        have h3lt := b3.lt
        have hbsz := hb5.size
        have x0 := b3'.c0
        have x1 := b3'.c1
        have x2 := b3'.f0
        have x3 := b3'.f1
        have y0 := b8.c0
        have y1 := b8.c1
        clear hA1
        go_wp2_with fail
        refine bodyPost_ret (v := .agg #[.bool mi2, .slice (some ⟨w.heap.size + 3, 0, none⟩) k5 n]) (by simp [results, Try.results61, go_sem, x0, x1]) rfl ⟨mi2, _, k5, n, l2, rfl, by omega, ?_, ht5, ?_, ?_, fun a ha => by cases ha; simp <;> omega⟩
        · rw [hv5.out, hres.out]; rfl
        · exact (hS6.setOther _ (fun a ha => by cases ha; simp) _).setOther _ (fun a ha => by cases ha; simp) _
        · exact ((hbw.out.trans (hb15.mono hbw.out.size)).setCell (by simp <;> omega) _).setCell (by simp <;> omega) _
      · have hfd := big_field
        go_wp2_with fail
        refine (short_any _ _ n n O _ hS (by omega)).mono ?_
        rintro e u2 ⟨mi2, k5, l2, rfl, hk5, hv5', ht5, hS5, hb5⟩
        have hv5 := Lib.hid hv5'
        clear hv5'
        have hA1 := (Below.refl u2.heap.size u2).alloc (Nat.le_refl _) (.cells #[.bool mi2, .slice (some ⟨w.heap.size + 3, 0, none⟩) k5 n] 58)
        have hb15 := hb5.trans (hA1.mono hb5.size)
        have d3 := (hb15.cell (p := ⟨w.heap.size, 0, none⟩) hinv.b1.lt).trans hinv.b1.c0
        have d4 := (hb15.cell (p := ⟨w.heap.size + 1, 0, none⟩) hinv.b2.lt).trans hinv.b2.c0
        have b3' := b3.below hb15 b3.lt
        have b8 := BCell.new u2 (.bool mi2) (.slice (some ⟨w.heap.size + 3, 0, none⟩) k5 n) 58
        have hS6 := hS5.keep hA1
        have h3lt := b3.lt
        have hbsz := hb5.size
        have hSl1 := Lib.hid (hSl.out.keep hb15)
        have hSO1 := Lib.hid (hS.out.keep hb15)
        clear hA1
        go_wp2_with fail
        refine (short_any false E ne ce l _ hSl1 (by omega)).mono ?_
        rintro e u3 ⟨mi3, k6, l3, rfl, hk6, hv6', ht6, hS7, hb6⟩
        have hv6 : Hid (Dg.val l3 = Dg.val l) := Lib.hid (by have := hv6'; unfold sgn at this; split at this <;> simp at this <;> omega)
        clear hv6'
        have hk6l := Lib.hid hS7.len
        have hb16 := hb15.trans (hb6.mono hb15.size)
        have b36 := b3'.below hb6 b3'.lt
        have b86 := b8.below hb6 (by simp)
        by_cases hpos : 0 < k6
        · have hR : Hid (0 < Dg.val l) := Lib.hid (by rw [← hv6.out]; exact Dg.val_top l3 _ (ht6.1 (by rw [← hk6l.out]; exact hpos)))
          have hSO2 := Lib.hid (hSO1.out.keep hb6)
          have c82 := b86.c0
          go_wp2_with fail
          refine (short_any true _ n n O _ hSO2 (by omega)).mono ?_
          rintro e u4 ⟨mi4, k7, l4, rfl, hk7, hv7', ht7, hS8, hb7⟩
          have hv7 := Lib.hid hv7'
          clear hv7'
          go_wp2_with fail
          refine (of_any (-1) _ (by constructor <;> decide)).mono ?_
          rintro e u5 ⟨mi5, E5, k8, cc8, l5, rfl, hk8, hv8', ht8, hS9, hb8, hf9⟩
          have hv8 := Lib.hid hv8'
          clear hv8'
          go_wp2_with fail
          refine (add_any mi4 mi5 _ E5 k7 k8 n cc8 l4 l5 _ (hS8.keep hb8) hS9 (by omega) (by omega)).mono ?_
          rintro e u6 ⟨mi6, E6, k9, cc9, l6, rfl, hk9, hv9', ht9, hS10, hb9, hf10⟩
          have hv9 := Lib.hid hv9'
          clear hv9'
          have hb79 := (hb7.trans (hb8.mono hb7.size)).trans (hb9.mono (Nat.le_trans hb7.size hb8.size))
          have b39 := b36.below hb79 b36.lt
          have b89 := b86.below hb79 b86.lt
          have hf6 : Fresh u3.heap.size E6 := hf10.mono (Nat.le_trans hb7.size hb8.size)
          have h36 := b86.lt
          have h3lt6 := b36.lt
          have hb19 := hb16.trans (hb79.mono hb16.size)
          have x0 := b39.c0
          have x1 := b39.c1
          have x2 := b39.f0
          have x3 := b39.f1
          have y0 := b89.c0
          have y1 := b89.c1
          have y2 := b89.f0
          have y3 := b89.f1
          have z0 := ((b89.set0 (.bool mi6)).set1 (.slice E6 k9 cc9)).c0
          have z1 := ((b89.set0 (.bool mi6)).set1 (.slice E6 k9 cc9)).c1
          have b3s := (b39.setOther ⟨u2.heap.size, 0, none⟩ (by simp; omega) (.bool mi6)).setOther ⟨u2.heap.size, 1, none⟩ (by simp; omega) (.slice E6 k9 cc9)
          have v0 := b3s.c0
          have v1 := b3s.c1
          go_wp2_with fail
          refine bodyPost_ret (v := .agg #[.bool mi6, .slice E6 k9 cc9]) (by simp [results, Try.results61, go_sem, v0, v1]) rfl ⟨mi6, E6, k9, cc9, l6, rfl, by omega, ?_, ht9, ?_, ?_, hf6.mono (by omega)⟩
          · rw [hv9.out, hv7.out, hv8.out, hres.out]; simp [qS, sgn, hR.out]; omega
          · refine (((hS10.setOther _ ?_ _).setOther _ ?_ _).setOther _ ?_ _).setOther _ ?_ _
            all_goals (intro a ha; have := hf6 a ha; simp; omega)
          · exact (((((hbw.out.trans (hb19.mono hbw.out.size)).setCell (by simp <;> omega) _).setCell (by simp <;> omega) _).setCell (by simp <;> omega) _).setCell (by simp <;> omega) _)
        · have hk0 : k6 = 0 := by omega
          have hR : Hid (Dg.val l = 0) := Lib.hid (by have hnil : l3 = [] := List.eq_nil_of_length_eq_zero (by rw [← hk6l.out]; exact hk0); rw [← hv6.out, hnil]; rfl)
          subst hk0
          have x0 := b36.c0
          have x1 := b36.c1
          have x2 := b36.f0
          have x3 := b36.f1
          have y0 := b86.c0
          have y1 := b86.c1
          go_wp2_with fail
          refine bodyPost_ret (v := .agg #[.bool mi2, .slice (some ⟨w.heap.size + 3, 0, none⟩) k5 n]) (by simp [results, Try.results61, go_sem, x0, x1]) rfl ⟨mi2, _, k5, n, l2, rfl, by omega, ?_, ht5, ?_, ?_, fun a ha => by cases ha; simp <;> omega⟩
          · rw [hv5.out, hres.out]; simp [qS, sgn, hR.out]
          · exact ((hS6.keep hb6).setOther _ (fun a ha => by cases ha; simp) _).setOther _ (fun a ha => by cases ha; simp) _
          · exact ((hbw.out.trans (hb16.mono hbw.out.size)).setCell (by simp <;> omega) _).setCell (by simp <;> omega) _
      · have hfd := big_field
        go_wp2_with fail
        refine (short_any _ _ n n O _ hS (by omega)).mono ?_
        rintro e u2 ⟨mi2, k5, l2, rfl, hk5, hv5', ht5, hS5, hb5⟩
        have hv5 := Lib.hid hv5'
        clear hv5'
        have hA1 := (Below.refl u2.heap.size u2).alloc (Nat.le_refl _) (.cells #[.bool mi2, .slice (some ⟨w.heap.size + 3, 0, none⟩) k5 n] 58)
        have hb15 := hb5.trans (hA1.mono hb5.size)
        have d3 := (hb15.cell (p := ⟨w.heap.size, 0, none⟩) hinv.b1.lt).trans hinv.b1.c0
        have d4 := (hb15.cell (p := ⟨w.heap.size + 1, 0, none⟩) hinv.b2.lt).trans hinv.b2.c0
        have b3' := b3.below hb15 b3.lt
        have b8 := BCell.new u2 (.bool mi2) (.slice (some ⟨w.heap.size + 3, 0, none⟩) k5 n) 58
        have hS6 := hS5.keep hA1
        have h3lt := b3.lt
        have hbsz := hb5.size
        have hSl1 := Lib.hid (hSl.out.keep hb15)
        have hSO1 := Lib.hid (hS.out.keep hb15)
        clear hA1
        go_wp2_with fail
        refine (short_any false E ne ce l _ hSl1 (by omega)).mono ?_
        rintro e u3 ⟨mi3, k6, l3, rfl, hk6, hv6', ht6, hS7, hb6⟩
        have hv6 : Hid (Dg.val l3 = Dg.val l) := Lib.hid (by have := hv6'; unfold sgn at this; split at this <;> simp at this <;> omega)
        clear hv6'
        have hk6l := Lib.hid hS7.len
        have hb16 := hb15.trans (hb6.mono hb15.size)
        have b36 := b3'.below hb6 b3'.lt
        have b86 := b8.below hb6 (by simp)
        by_cases hpos : 0 < k6
        · have hR : Hid (0 < Dg.val l) := Lib.hid (by rw [← hv6.out]; exact Dg.val_top l3 _ (ht6.1 (by rw [← hk6l.out]; exact hpos)))
          have hSO2 := Lib.hid (hSO1.out.keep hb6)
          have c82 := b86.c0
          go_wp2_with fail
          refine (short_any true _ n n O _ hSO2 (by omega)).mono ?_
          rintro e u4 ⟨mi4, k7, l4, rfl, hk7, hv7', ht7, hS8, hb7⟩
          have hv7 := Lib.hid hv7'
          clear hv7'
          go_wp2_with fail
          refine (of_any (-1) _ (by constructor <;> decide)).mono ?_
          rintro e u5 ⟨mi5, E5, k8, cc8, l5, rfl, hk8, hv8', ht8, hS9, hb8, hf9⟩
          have hv8 := Lib.hid hv8'
          clear hv8'
          go_wp2_with fail
          refine (add_any mi4 mi5 _ E5 k7 k8 n cc8 l4 l5 _ (hS8.keep hb8) hS9 (by omega) (by omega)).mono ?_
          rintro e u6 ⟨mi6, E6, k9, cc9, l6, rfl, hk9, hv9', ht9, hS10, hb9, hf10⟩
          have hv9 := Lib.hid hv9'
          clear hv9'
          have hb79 := (hb7.trans (hb8.mono hb7.size)).trans (hb9.mono (Nat.le_trans hb7.size hb8.size))
          have b39 := b36.below hb79 b36.lt
          have b89 := b86.below hb79 b86.lt
          have hf6 : Fresh u3.heap.size E6 := hf10.mono (Nat.le_trans hb7.size hb8.size)
          have h36 := b86.lt
          have h3lt6 := b36.lt
          have hb19 := hb16.trans (hb79.mono hb16.size)
          have x0 := b39.c0
          have x1 := b39.c1
          have x2 := b39.f0
          have x3 := b39.f1
          have y0 := b89.c0
          have y1 := b89.c1
          have y2 := b89.f0
          have y3 := b89.f1
          have z0 := ((b89.set0 (.bool mi6)).set1 (.slice E6 k9 cc9)).c0
          have z1 := ((b89.set0 (.bool mi6)).set1 (.slice E6 k9 cc9)).c1
          have b3s := (b39.setOther ⟨u2.heap.size, 0, none⟩ (by simp; omega) (.bool mi6)).setOther ⟨u2.heap.size, 1, none⟩ (by simp; omega) (.slice E6 k9 cc9)
          have v0 := b3s.c0
          have v1 := b3s.c1
          go_wp2_with fail
          refine bodyPost_ret (v := .agg #[.bool mi6, .slice E6 k9 cc9]) (by simp [results, Try.results61, go_sem, v0, v1]) rfl ⟨mi6, E6, k9, cc9, l6, rfl, by omega, ?_, ht9, ?_, ?_, hf6.mono (by omega)⟩
          · rw [hv9.out, hv7.out, hv8.out, hres.out]; simp [qS, sgn, hR.out]; omega
          · refine (((hS10.setOther _ ?_ _).setOther _ ?_ _).setOther _ ?_ _).setOther _ ?_ _
            all_goals (intro a ha; have := hf6 a ha; simp; omega)
          · exact (((((hbw.out.trans (hb19.mono hbw.out.size)).setCell (by simp <;> omega) _).setCell (by simp <;> omega) _).setCell (by simp <;> omega) _).setCell (by simp <;> omega) _)
        · have hk0 : k6 = 0 := by omega
          have hR : Hid (Dg.val l = 0) := Lib.hid (by have hnil : l3 = [] := List.eq_nil_of_length_eq_zero (by rw [← hk6l.out]; exact hk0); rw [← hv6.out, hnil]; rfl)
          subst hk0
          have x0 := b36.c0
          have x1 := b36.c1
          have x2 := b36.f0
          have x3 := b36.f1
          have y0 := b86.c0
          have y1 := b86.c1
          go_wp2_with fail
          refine bodyPost_ret (v := .agg #[.bool mi2, .slice (some ⟨w.heap.size + 3, 0, none⟩) k5 n]) (by simp [results, Try.results61, go_sem, x0, x1]) rfl ⟨mi2, _, k5, n, l2, rfl, by omega, ?_, ht5, ?_, ?_, fun a ha => by cases ha; simp <;> omega⟩
          · rw [hv5.out, hres.out]; simp [qS, sgn, hR.out]
          · exact ((hS6.keep hb6).setOther _ (fun a ha => by cases ha; simp) _).setOther _ (fun a ha => by cases ha; simp) _
          · exact ((hbw.out.trans (hb16.mono hbw.out.size)).setCell (by simp <;> omega) _).setCell (by simp <;> omega) _
      · go_wp2_with fail
        refine (short_any _ _ n n O _ hS (by omega)).mono ?_
        rintro e u2 ⟨mi2, k5, l2, rfl, hk5, hv5', ht5, hS5, hb5⟩
        have hv5 := Lib.hid hv5'
        clear hv5'
        have hA1 := (Below.refl u2.heap.size u2).alloc (Nat.le_refl _) (.cells #[.bool mi2, .slice (some ⟨w.heap.size + 3, 0, none⟩) k5 n] 58)
        have hb15 := hb5.trans (hA1.mono hb5.size)
        have d3 := (hb15.cell (p := ⟨w.heap.size, 0, none⟩) hinv.b1.lt).trans hinv.b1.c0
        have d4 := (hb15.cell (p := ⟨w.heap.size + 1, 0, none⟩) hinv.b2.lt).trans hinv.b2.c0
        have b3' := b3.below hb15 b3.lt
        have b8 := BCell.new u2 (.bool mi2) (.slice (some ⟨w.heap.size + 3, 0, none⟩) k5 n) 58
        have hS6 := hS5.keep hA1
        have h3lt := b3.lt
        have hbsz := hb5.size
        have x0 := b3'.c0
        have x1 := b3'.c1
        have x2 := b3'.f0
        have x3 := b3'.f1
        have y0 := b8.c0
        have y1 := b8.c1
        clear hA1
        go_wp2_with fail
        refine bodyPost_ret (v := .agg #[.bool mi2, .slice (some ⟨w.heap.size + 3, 0, none⟩) k5 n]) (by simp [results, Try.results61, go_sem, x0, x1]) rfl ⟨mi2, _, k5, n, l2, rfl, by omega, ?_, ht5, ?_, ?_, fun a ha => by cases ha; simp <;> omega⟩
        · rw [hv5.out, hres.out]; rfl
        · exact (hS6.setOther _ (fun a ha => by cases ha; simp) _).setOther _ (fun a ha => by cases ha; simp) _
        · exact ((hbw.out.trans (hb15.mono hbw.out.size)).setCell (by simp <;> omega) _).setCell (by simp <;> omega) _
theorem div_any (m1 m2 : Bool) (A C : Option Addr) (n k cA cC : Nat) (al bl : List Bool) (w : World) (hSA : SlB w A n cA al) (hSC : SlB w C k cC bl) (hl : n ≤ 10000) (hl2 : k ≤ 10000) (hB : sgn m2 bl ≠ 0) :
    Calls Try.prog 61 #[.agg #[.bool m1, .slice A n cA], .agg #[.bool m2, .slice C k cC]] w fun e w' => MadeBig w (divI (sgn m1 al) (sgn m2 bl)) (max n 64 + 1) e w' :=
  div_any0 m1 m2 A C n k cA cC al bl w (Lib.hid hSA) (Lib.hid hSC) hl hl2 (Lib.hid (by
    rcases Nat.eq_zero_or_pos (Dg.val bl) with h | h
    · exact absurd (by unfold sgn; rw [h]; simp) hB
    · exact h))

/-- What MulDiv answers. -/
theorem refmuldiv_any (a b c : Int) (ha : I64 a) (hb : I64 b) (hc : I64 c) (h0 : c ≠ 0) (w : World) :
    Calls Try.prog 27 #[.int .i64 a, .int .i64 b, .int .i64 c] w fun e w' => MadeCut w (qI a b c) e w' := by
  have hc0 : (c == 0) = false := by simpa using h0
  have h0 := Lib.hid h0
  have ha := Lib.hid ha
  have hb := Lib.hid hb
  have hc := Lib.hid hc
  have hq : Hid (divI (a * b) c = qI a b c) := Lib.hid rfl
  go_enter Try.func27, Try.ntmps27
  go_wp2_with fail
  refine (of_any a _ ha.out).mono ?_; rintro e u1 ⟨m1, E1, k1, c1, l1, rfl, hk1, hv1, ht1, hS1, hb1, hf1⟩
  have hv1 := Lib.hid hv1
  go_wp2_with fail
  refine (of_any b _ hb.out).mono ?_; rintro e u2 ⟨m2, E2, k2, c2, l2, rfl, hk2, hv2, ht2, hS2, hb2, hf2⟩
  have hv2 := Lib.hid hv2
  go_wp2_with fail
  refine (mul_any m1 m2 E1 E2 k1 k2 c1 c2 l1 l2 _ (hS1.keep hb2) hS2 (by omega) (by omega)).mono ?_; rintro e u3 ⟨m3, E3, k3, c3, l3, rfl, hk3, hv3, ht3, hS3, hb3, hf3⟩
  have hv3 := Lib.hid hv3
  go_wp2_with fail
  refine (of_any c _ hc.out).mono ?_; rintro e u4 ⟨m4, E4, k4, c4, l4, rfl, hk4, hv4, ht4, hS4, hb4, hf4⟩
  have hv4 := Lib.hid hv4
  go_wp2_with fail
  refine (div_any m3 m4 E3 E4 k3 k4 c3 c4 l3 l4 _ (hS3.keep hb4) hS4 (by omega) (by omega) (by rw [hv4.out]; exact h0.out)).mono ?_; rintro e u5 ⟨m5, E5, k5, c5, l5, rfl, hk5, hv5, ht5, hS5, hb5, hf5⟩
  have hv5 := Lib.hid hv5
  go_wp2_with fail
  refine (refcut_any m5 E5 k5 c5 l5 _ hS5 (by omega)).mono ?_; rintro e u6 ⟨rfl, hb6⟩
  have h2 := hb1.trans (hb2.mono hb1.size)
  have h3 := h2.trans (hb3.mono h2.size)
  have h4 := h3.trans (hb4.mono h3.size)
  have h5 := h4.trans (hb5.mono h4.size)
  have h6 := Lib.hid (h5.trans (hb6.mono h5.size))
  rw [hv5.out, hv3.out, hv4.out, hv1.out, hv2.out, hq.out]
  clear hb1 hb2 hb3 hb4 hb5 hb6 h2 h3 h4 h5 hS1 hS2 hS3 hS4 hS5
  go_wp2_with fail
  go_ret2
  exact ⟨rfl, h6.out⟩

theorem refmuldiv_zero (a b : Int) (w : World) :
    Calls Try.prog 27 #[.int .i64 a, .int .i64 b, .int .i64 0] w fun e w' => e = .returned (.tuple #[.int .i64 0, .bool true]) ∧ w = w' := by
  go_enter Try.func27, Try.ntmps27
  go_wp2_with fail
  go_ret2
  exact ⟨rfl, rfl⟩
end Go.Proofs.Ytjjaeloamogfdaa
