/-
  Contract of the document's answer for lengths: the product of two numbers of any size.
-/
import Derived.Test.YtjjaeloamogfdaaCutRef
import Derived.Deep.RegionLaw
import Derived.Laws.OwnMore
namespace Go.Proofs.Ytjjaeloamogfdaa
open Go.RowKit

/-- So many noughts, in a block of their own. -/
def zeros (i : Nat) : Obj := .cells (madeCells #[Value.bool false] i) 4

theorem mk_bools (i : Nat) (hi : i ≤ 1000000) (w : World) : (Instr.makeSlice 56 (.int .i64 (i : Int)) (.int .i64 (i : Int))).run Try.prog w = .ok (.slice (some ⟨w.heap.size, 0, none⟩) i i) (w.alloc (zeros i)) := by
  obtain ⟨inf, hinf, hz0, hz1, hz2⟩ := info_parts infoB
  have h := run_make (P := Try.prog) w 56 4 inf (.bool false) Try.underlying56 hinf hz0 .i64 .i64 i i (by omega) (Int.le_refl _) (by rw [hz2]; omega) (by omega)
  rw [hz1] at h
  simpa [zeros, Value.cells] using h

theorem zeros_own (w : World) (i base : Nat) (hb : base ≤ w.heap.size) (hi : i ≤ 1000000) : (w.alloc (zeros i)).ownsRow base 4 1 (.slice (some ⟨w.heap.size, 0, none⟩) i i) i ((List.replicate i false).map Value.bool) := by
  have h := World.ownsRow_lit (base := base) (e := 4) (size := 1) w (madeCells #[Value.bool false] i) i hb (by unfold maxLen; omega) (by simp [size_madeCells])
  rw [toList_madeCells_one] at h
  simpa [zeros] using h

/-- An append of a slice of digits, nil or not, onto a row of the call's own: one operation. -/
theorem wp_append_bits {w : World} {o : Oper} {a : Act} {K : Act → World → Prop} {Q : Exit → Act → World → Prop} (s x : Operand)
    (ho : o.op = .call { callee := .builtin .append, args := #[s, x], argTypes := #[56, 56] }) (base : Nat)
    (v : Value) (n : Nat) (bl : List Bool) (hs : a.eval s = v) (hown : w.ownsRow base 4 1 v n (bl.map Value.bool)) (A : Option Addr) (m c : Nat) (news : List Bool) (hx : a.eval x = .slice A m c)
    (hS : SlB w A m c news) (hn : n + m ≤ 1000000) (hbase : base ≤ w.heap.size)
    (h : ∀ v' w', w'.ownsRow base 4 1 v' (n + m) ((bl ++ news).map Value.bool) → w.grownBy w' v.ownBlock → K (a.put o.dst v') w') : Oper.wp Try.prog o a w K Q := by
  obtain ⟨i, hi, hz0, hz1, hz2⟩ := info_parts infoB
  have hm' := hS.len
  cases A with
  | none =>
    obtain ⟨rfl, rfl⟩ := hS.nil rfl
    have : news = [] := List.eq_nil_of_length_eq_zero (by omega)
    subst this
    have hrun := run_append_owned_none (P := Try.prog) (w := w) base 56 o.type 4 i 1 Try.underlying56 hi v n _ hown
    unfold Oper.wp
    simp [execOp, ho, resolve, invoke, builtin, hs, hx, hrun, Result.andThen]
    exact h v w (by simpa using hown) (World.grownBy.refl w _)
  | some ad =>
    refine wp_append_own w s x 56 ho base 4 i (.bool false) 1 1 Try.underlying56 hi hz0 hz1 hz2 rfl (by decide) v n (bl.map Value.bool) hs hown ad m c (news.map Value.bool) hx (by simp; omega) ?_ (bools_oneCell _) (by unfold maxLen; omega) (by omega) hbase ?_
    · intro j u hj
      have hjl : j < news.length := by
        rcases Nat.lt_or_ge j news.length with hlt | hge
        · exact hlt
        · rw [List.getElem?_eq_none (by simpa using hge)] at hj; cases hj
      obtain ⟨a', ha', _, hc⟩ := hS.bits (by omega)
      obtain rfl := Option.some.inj ha'
      rw [hc j hjl]
      simpa [List.getD, List.getElem?_eq_getElem hjl] using hj
    · intro v' w' h1 h2 _
      exact h v' w' (by simpa using h1) h2

theorem step_append_bits {w : World} {ops : Array Oper} {o : Oper} {a : Act} {K : Act → World → Prop} {Q : Exit → Act → World → Prop} {E : Prop} (hgd : o.guard = none) (s x : Operand)
    (ho : o.op = .call { callee := .builtin .append, args := #[s, x], argTypes := #[56, 56] }) (base : Nat)
    (v : Value) (n : Nat) (bl : List Bool) (hs : a.eval s = v) (hown : w.ownsRow base 4 1 v n (bl.map Value.bool)) (A : Option Addr) (m c : Nat) (news : List Bool) (hx : a.eval x = .slice A m c)
    (hS : SlB w A m c news) (hn : n + m ≤ 1000000) (hbase : base ≤ w.heap.size)
    (h : ∀ v' w', w'.ownsRow base 4 1 v' (n + m) ((bl ++ news).map Value.bool) → w.grownBy w' v.ownBlock → K (a.put o.dst v') w') :
    if Region.wanted o (yielded ops a.tmps) = true then Oper.wp Try.prog o a w K Q else E := by
  have hw : Region.wanted o (yielded ops a.tmps) = true := by simp [Region.wanted, hgd]
  rw [if_pos hw]
  exact wp_append_bits s x ho base v n bl hs hown A m c news hx hS hn hbase h

theorem val_zeros : ∀ i, Dg.val (List.replicate i false) = 0
  | 0 => rfl
  | i + 1 => by simp [List.replicate_succ, Dg.val, Dg.b2n, val_zeros i]
theorem val_shift (i : Nat) (bl : List Bool) : Dg.val (List.replicate i false ++ bl) = 2 ^ i * Dg.val bl := by
  rw [Dg.val_append, val_zeros, List.length_replicate]; omega
theorem val_take_succ (al : List Bool) (k : Nat) (h : k < al.length) : Dg.val (al.take (k + 1)) = Dg.val (al.take k) + 2 ^ k * Dg.b2n (al.getD k false) := by
  rw [List.take_succ_eq_append_getElem h, Dg.val_snoc, List.length_take, Nat.min_eq_left (Nat.le_of_lt h), List.getD_eq_getElem?_getD, List.getElem?_eq_getElem h]; rfl

theorem sgn_mul (m1 m2 : Bool) (l a b : List Bool) (h : Dg.val l = Dg.val a * Dg.val b) : sgn (m1 != m2) l = sgn m1 a * sgn m2 b := by
  unfold sgn; rw [h]; cases m1 <;> cases m2 <;> simp [Int.natCast_mul, Int.neg_mul, Int.mul_neg]

/-- What the loop keeps. -/
structure MulInv (w0 : World) (m1 m2 : Bool) (v1 v2 : Value) (nb : Nat) (al bl : List Bool) (k : Nat) (E : Option Addr) (n c : Nat) (l : List Bool) (wr : World) : Prop where
  b1 : BCell wr w0.heap.size (.bool m1) v1
  b2 : BCell wr (w0.heap.size + 1) (.bool m2) v2
  b3 : BCell wr (w0.heap.size + 2) (.bool false) (.slice none 0 0)
  b4 : BCell wr (w0.heap.size + 3) (.bool false) (.slice E n c)
  sl : SlB wr E n c l
  fr : Fresh (w0.heap.size + 4) E
  val : Dg.val l = Dg.val (al.take k) * Dg.val bl
  len : n ≤ nb + k
  bw : Below w0.heap.size w0 wr

def MulInv' (w0 : World) (m1 m2 : Bool) (v1 v2 : Value) (nb : Nat) (al bl : List Bool) (k : Nat) (wr : World) : Prop := ∃ E n c l, MulInv w0 m1 m2 v1 v2 nb al bl k E n c l wr

theorem mulinv_start (w : World) (m1 m2 : Bool) (v1 v2 : Value) (nb : Nat) (al bl : List Bool) :
    MulInv' w m1 m2 v1 v2 nb al bl 0 ((((w.alloc (.cells #[.bool m1, v1] 58)).alloc (.cells #[.bool m2, v2] 58)).alloc (.cells #[.bool false, .slice none 0 0] 58)).alloc (.cells #[.bool false, .slice none 0 0] 58)) := by
  obtain ⟨b1, b2, b3, hb, hs⟩ := box_facts w (.bool m1) v1 (.bool m2) v2 (.bool false) (.slice none 0 0) _ rfl
  refine ⟨none, 0, 0, [], b1.alloc _, b2.alloc _, b3.alloc _, ?_, slb_nil _, fun a h => (by cases h), by simp [Dg.val], by omega, hb.alloc hb.size _⟩
  have := BCell.new (((w.alloc (.cells #[.bool m1, v1] 58)).alloc (.cells #[.bool m2, v2] 58)).alloc (.cells #[.bool false, .slice none 0 0] 58)) (.bool false) (.slice none 0 0) 58
  rw [hs] at this
  exact this

theorem mulinv_skip {w0 wr : World} {m1 m2 : Bool} {v1 v2 : Value} {nb k : Nat} {al bl : List Bool} {E : Option Addr} {n c : Nat} {l : List Bool} (h : MulInv w0 m1 m2 v1 v2 nb al bl k E n c l wr) (hk : k < al.length) (hd : al.getD k false = false) : MulInv' w0 m1 m2 v1 v2 nb al bl (k + 1) wr :=
  ⟨E, n, c, l, h.b1, h.b2, h.b3, h.b4, h.sl, h.fr, by rw [val_take_succ al k hk, hd, h.val]; simp [Dg.b2n], by have := h.len; omega, h.bw⟩

theorem mulinv_step {w0 wr w' : World} {m1 m2 : Bool} {v1 v2 : Value} {nb k : Nat} {al bl : List Bool} {E E' : Option Addr} {n c n' c' : Nat} {l l' : List Bool} (h : MulInv w0 m1 m2 v1 v2 nb al bl k E n c l wr) (hk : k < al.length) (hd : al.getD k false = true)
    (hb : Below wr.heap.size wr w') (hS : SlB w' E' n' c' l') (hf : Fresh wr.heap.size E') (hv : Dg.val l' = Dg.val l + 2 ^ k * Dg.val bl) (hn : n' ≤ max n (k + nb) + 1) :
    MulInv' w0 m1 m2 v1 v2 nb al bl (k + 1) (w'.setCell ⟨w0.heap.size + 3, 1, none⟩ (.slice E' n' c')) := by
  have hlt := h.b4.lt
  refine ⟨E', n', c', l', (h.b1.below hb h.b1.lt).setOther _ (by simp) _, (h.b2.below hb h.b2.lt).setOther _ (by simp) _, (h.b3.below hb h.b3.lt).setOther _ (by simp) _, (h.b4.below hb h.b4.lt).set1 _,
    hS.setOther _ (fun a ha => by have := hf a ha; show _ ≠ w0.heap.size + 3; omega) _, hf.mono (by omega), ?_, by have := h.len; omega, (h.bw.trans (hb.mono h.bw.size)).setCell (by simp) _⟩
  rw [val_take_succ al k hk, hd, hv, h.val, Nat.add_mul]; simp [Dg.b2n]

set_option maxRecDepth 100000 in
set_option maxHeartbeats 3200000 in
theorem mul_any0 (m1 m2 : Bool) (A C : Option Addr) (n k cA cC : Nat) (al bl : List Bool) (w : World) (hSA : Hid (SlB w A n cA al)) (hSC : Hid (SlB w C k cC bl)) (hl : n ≤ 20000) (hl2 : k ≤ 20000) :
    Calls Try.prog 62 #[.agg #[.bool m1, .slice A n cA], .agg #[.bool m2, .slice C k cC]] w fun e w' => MadeBig w (sgn m1 al * sgn m2 bl) (n + k) e w' := by
  have hst := Lib.hid (mulinv_start w m1 m2 (.slice A n cA) (.slice C k cC) k al bl)
  go_enter Try.func62, Try.ntmps62
  go_wp2_with fail
  go_loopw [6] (fun i wr => ∃ j : Nat, j ≤ n ∧ i = .int .i64 j ∧ Hid (MulInv' w m1 m2 (.slice A n cA) (.slice C k cC) k al bl j wr)) (fun i _ => n - (intOf i).toNat)
  case atStart => exact ⟨0, Nat.zero_le _, rfl, hst⟩
  case round =>
    obtain ⟨j, hj, rfl, hinv0⟩ := hrel
    obtain ⟨E, ne, ce, l, hinv⟩ := hinv0.out
    clear hinv0
    have c1 := hinv.b1.c1
    have c2 := hinv.b2.c1
    have c4 := hinv.b4.c1
    have f4 := hinv.b4.f1
    by_cases hlt : j < n
    · obtain ⟨a, rfl, hab, hac⟩ := hSA.out.bits (by rw [← hSA.out.len]; omega)
      have hc := hinv.bw.cell (p := a.add j) (by rw [add_block]; exact hab)
      rw [hac j (by rw [← hSA.out.len]; omega)] at hc
      clear hac
      have hjl : Hid (j < al.length) := Lib.hid (by rw [← hSA.out.len]; exact hlt)
      have hi1 : (0 : Int) ≤ (j : Int) := by omega
      have hi2 : (j : Int) < (n : Int) := by omega
      rcases hd : al.getD j false with _ | _
      · rw [hd] at hc
        have hnew := Lib.hid (mulinv_skip hinv hjl.out hd)
        clear hd
        go_wp2_with fail
        go_roundw
        case rel => exact ⟨j + 1, by omega, by go_num, hnew⟩
        case measure => simp [intOf]; omega
      · rw [hd] at hc
        have hd' := Lib.hid hd
        clear hd
        have hmk := mk_bools j (by omega)
        have hlen := hinv.len
        have d2 := (hinv.b2.alloc (zeros j)).c1
        have d4 := (hinv.b4.alloc (zeros j)).c1
        have hA0 := (Below.refl wr.heap.size wr).alloc (Nat.le_refl _) (zeros j)
        have own0 := Lib.hid ((zeros_own wr j wr.heap.size (Nat.le_refl _) (by omega)).drew)
        have hSC1 := Lib.hid ((hSC.out.keep hinv.bw).keep (hA0.drew))
        have hS0 := Lib.hid (hinv.sl.keep (hA0.drew))
        have hb0 := hinv.b4.alloc (zeros j)
        have hlt4 := hinv.b4.lt
        go_wp2_with fail
        go_region_law (first
          | (refine step_append_bits rfl (.tmp 23) (.tmp 25) rfl wr.heap.size _ j (List.replicate j false) rfl own0.out C k cC bl rfl hSC1.out (by omega) (by simp) ?_; intro v1 u1 hown1 hgr1; have hb1 := (hA0.drew).grown hgr1 (by simp) (fun q hq => by have := (own0.out.lt q hq).1; exact this); obtain ⟨A1, cc1, rfl, hI1, hf1⟩ := bits_own hown1; have hb41 := hinv.b4.below hb1 hlt4; have e4 := hb41.c1; have hS1 := Lib.hid (hinv.sl.keep hb1); have hI1 := Lib.hid hI1)
          | (go_simp; go_at_call 71; refine (plus_any E A1 ne (j + k) ce cc1 l (List.replicate j false ++ bl) _ hS1 hI1 (by omega) (by omega)).mono ?_; rintro e u2 ⟨E2, k2, cc2, l2, rfl, hk2, hv2', hS2, hb2, hfr2⟩; have hv2 := Lib.hid hv2'; clear hv2'; have hb42 := hb41.below hb2 hb41.lt; have g4 := hb42.c1; have g5 := hb42.f1))
        all_goals
          have hnew := Lib.hid (mulinv_step hinv hjl.out hd'.out (hb1.trans (hb2.mono hb1.size)) hS2 (hfr2.mono hb1.size) (by rw [hv2.out, val_shift]) (by omega))
          clear hb1 hb2 hS2 hfr2 hb42 hb41 g4 g5 e4 hown1 hgr1 hf1 d2 d4 hA0 hb0 c1 c2 c4 f4 hc hmk
          go_wp2_with fail
          go_roundw
          case rel => exact ⟨j + 1, by omega, by go_num, hnew⟩
          case measure => simp [intOf]; omega
    · have hjn : j = n := by omega
      have hval : Hid (Dg.val l = Dg.val al * Dg.val bl) := Lib.hid (by rw [hinv.val, List.take_of_length_le (by rw [← hSA.out.len]; omega)])
      have hlen := hinv.len
      have hfr := hinv.fr
      have hS := Lib.hid hinv.sl
      have b3 := hinv.b3
      have hbw := Lib.hid hinv.bw
      have d1 := hinv.b1.c0
      have d2 := hinv.b2.c0
      have d4 := hinv.b4.c0
      have e4 := hinv.b4.f0
      have k1 := (hinv.b4.set0 (.bool true)).c0
      have k2 := (hinv.b4.set0 (.bool true)).c1
      have k3 := (hinv.b4.set0 (.bool false)).c0
      have k4 := (hinv.b4.set0 (.bool false)).c1
      clear hjn
      cases m1 <;> cases m2
      all_goals
        go_wp2_with fail
        have hb0 := (Below.refl (w.heap.size + 3) wr).setCell (p := ⟨w.heap.size + 3, 0, none⟩) (Nat.le_refl _)
        refine (short_any _ E ne ce l _ (Lib.hid (hS.out.setOther _ (fun a ha => by have := hfr a ha; show _ ≠ w.heap.size + 3; omega) _)) (by omega)).mono ?_
        rintro e u2 ⟨mi2, k5, l2, rfl, hk5, hv5', ht5, hS5, hb5⟩
        have hv5 := Lib.hid hv5'
        clear hv5'
        have b3' := ((b3.setOther ⟨w.heap.size + 3, 0, none⟩ (by simp) _).below hb5 (by have := b3.lt; simpa [World.setCell] using this))
        have x0 := b3'.c0
        have x1 := b3'.c1
        have x2 := b3'.f0
        have x3 := b3'.f1
        go_wp2_with fail
        refine bodyPost_ret (v := .agg #[.bool mi2, .slice E k5 ce]) (by simp [results, Try.results62, go_sem, x0, x1]) rfl ⟨mi2, E, k5, ce, l2, rfl, by omega, ?_, ht5, ?_, ?_, hfr.mono (by omega)⟩
        · rw [hv5.out]; first | exact sgn_mul true true _ _ _ hval.out | exact sgn_mul true false _ _ _ hval.out | exact sgn_mul false true _ _ _ hval.out | exact sgn_mul false false _ _ _ hval.out
        · exact (hS5.setOther _ (fun a ha => by have := hfr a ha; show _ ≠ w.heap.size + 2; omega) _).setOther _ (fun a ha => by have := hfr a ha; show _ ≠ w.heap.size + 2; omega) _
        · exact (((hbw.out.setCell (by simp <;> omega) _).trans (hb5.mono (by have := b3.lt; simp [World.setCell]; omega))).setCell (by simp <;> omega) _).setCell (by simp <;> omega) _
theorem mul_any (m1 m2 : Bool) (A C : Option Addr) (n k cA cC : Nat) (al bl : List Bool) (w : World) (hSA : SlB w A n cA al) (hSC : SlB w C k cC bl) (hl : n ≤ 20000) (hl2 : k ≤ 20000) :
    Calls Try.prog 62 #[.agg #[.bool m1, .slice A n cA], .agg #[.bool m2, .slice C k cC]] w fun e w' => MadeBig w (sgn m1 al * sgn m2 bl) (n + k) e w' :=
  mul_any0 m1 m2 A C n k cA cC al bl w (Lib.hid hSA) (Lib.hid hSC) hl hl2
end Go.Proofs.Ytjjaeloamogfdaa
