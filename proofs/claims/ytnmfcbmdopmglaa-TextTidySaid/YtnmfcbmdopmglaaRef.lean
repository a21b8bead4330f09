/-
  Contracts of the document's answer for lengths, by digits: at, less, Within: what each answers; no memory is made or changed. And what a slice of digits is.
-/
import Derived.Test.YtnmfcbmdopmglaaLaw
import Derived.Test.YtnmfcbmdopmglaaDigits
import Derived.BigGuard
import Derived.Shelf.Bits.Mul64
import Derived.Shelf.Strconv.Itoa0
namespace Go.Proofs.Ytnmfcbmdopmglaa
open Go.RowKit

/-- What the slice's address leads to: the digits bl. -/
def Bits (w : World) (B : Nat) (A : Option Addr) (bl : List Bool) : Prop :=
  0 < bl.length → ∃ a, A = some a ∧ a.block < B ∧ ∀ i, i < bl.length → w.cell? (a.add i) = some (.bool (bl.getD i false))

theorem Bits.keep {w w' : World} {B : Nat} {A : Option Addr} {bl : List Bool} (h : Bits w B A bl) (hb : Below B w w') : Bits w' B A bl := fun hl => by
  obtain ⟨a, e, hB, hc⟩ := h hl
  exact ⟨a, e, hB, fun i hi => (hb.cell (p := a.add i) (by rw [add_block]; exact hB)).trans (hc i hi)⟩
theorem Bits.more {w : World} {B B' : Nat} {A : Option Addr} {bl : List Bool} (h : Bits w B A bl) (hB : B ≤ B') : Bits w B' A bl := fun hl => by
  obtain ⟨a, e, hb, hc⟩ := h hl
  exact ⟨a, e, Nat.lt_of_lt_of_le hb hB, hc⟩
theorem Bits.drewN {w : World} {B : Nat} {A : Option Addr} {bl : List Bool} (h : Bits w B A bl) (k : Nat) : Bits (w.drewN k) B A bl := h
theorem Bits.take {w : World} {B : Nat} {A : Option Addr} {bl : List Bool} (h : Bits w B A bl) (k : Nat) : Bits w B A (bl.take k) := fun hl => by
  have hl' : 0 < bl.length := by simp at hl; omega
  obtain ⟨a, e, hb, hc⟩ := h hl'
  refine ⟨a, e, hb, fun i hi => ?_⟩
  simp at hi
  rw [hc i (by omega)]
  simp [List.getD, show i < k by omega]

set_option maxRecDepth 100000 in
theorem at_any (A : Option Addr) (n c i B : Nat) (bl : List Bool) (w : World) (h : Bits w B A bl) (hn : Hid (n = bl.length)) (hl : n ≤ 1000000) :
    Calls Try.prog 54 #[.slice A n c, .int .i64 (i : Int)] w fun e w' => e = .returned (.int .i64 (Dg.dig bl i : Int)) ∧ w = w' := by
  by_cases hi : i < n
  · obtain ⟨a, rfl, _, hc⟩ := h (by rw [← hn.out]; omega)
    have hc := hc i (by rw [← hn.out]; exact hi)
    clear h
    have hd : Hid (Dg.dig bl i = Dg.b2n (bl.getD i false)) := Lib.hid rfl
    generalize bl.getD i false = t at *
    rw [hd.out]
    cases t
    · show Calls _ _ _ _ fun e w' => e = .returned (.int .i64 0) ∧ w = w'
      go_enter Try.func54, Try.ntmps54
      go_wp2_with fail
      go_ret
      exact ⟨rfl, rfl⟩
    · show Calls _ _ _ _ fun e w' => e = .returned (.int .i64 1) ∧ w = w'
      go_enter Try.func54, Try.ntmps54
      go_wp2_with fail
      go_ret
      exact ⟨rfl, rfl⟩
  · have hd : Dg.dig bl i = 0 := by
      unfold Dg.dig
      rw [List.getD_eq_getElem?_getD, List.getElem?_eq_none (by rw [← hn.out]; omega)]
      rfl
    rw [hd]
    clear hd h
    show Calls _ _ _ _ fun e w' => e = .returned (.int .i64 0) ∧ w = w'
    go_enter Try.func54, Try.ntmps54
    go_wp2_with fail
    go_ret
    exact ⟨rfl, rfl⟩

set_option maxRecDepth 100000 in
theorem less_any (A C : Option Addr) (n m cA cC B D : Nat) (al bl : List Bool) (w : World) (hA : Hid (Bits w B A al)) (hC : Hid (Bits w D C bl)) (hn : Hid (n = al.length)) (hm : Hid (m = bl.length)) (hl : n ≤ 1000000) (hl2 : m ≤ 1000000) :
    Calls Try.prog 53 #[.slice A n cA, .slice C m cC] w fun e w' => e = .returned (.bool (decide (Dg.val al < Dg.val bl))) ∧ w = w' := by
  have hst : Hid (Dg.val (al.drop ((max (n : Int) (m : Int) - 1) + 1).toNat) = Dg.val (bl.drop ((max (n : Int) (m : Int) - 1) + 1).toNat)) := by
    refine Lib.hid ?_
    rw [List.drop_of_length_le (by rw [← hn.out]; omega), List.drop_of_length_le (by rw [← hm.out]; omega)]
  go_enter Try.func53, Try.ntmps53
  go_wp2_with fail
  go_loop [5] (fun v => ∃ i : Int, v = .int .i64 i ∧ -1 ≤ i ∧ i ≤ 1000000 ∧ Hid (Dg.val (al.drop (i + 1).toNat) = Dg.val (bl.drop (i + 1).toNat))) (fun v => (intOf v + 1).toNat)
  case atStart => exact ⟨_, rfl, by omega, by omega, hst⟩
  case round =>
    obtain ⟨i, rfl, hi1, hi2, hinv⟩ := hrel
    by_cases hi : 0 ≤ i
    · obtain ⟨j, rfl⟩ := Int.eq_ofNat_of_zero_le hi
      have h1 := Dg.dig_le al j
      have h2 := Dg.dig_le bl j
      by_cases hd : Dg.dig al j = Dg.dig bl j
      · have hb : ((Dg.dig al j : Int) != (Dg.dig bl j : Int)) = false := by rw [hd]; simp
        have hnext : Hid (Dg.val (al.drop ((j : Int) - 1 + 1).toNat) = Dg.val (bl.drop ((j : Int) - 1 + 1).toNat)) := by
          refine Lib.hid ?_
          have := hinv.out
          rw [show ((j : Int) + 1).toNat = j + 1 by omega] at this
          rw [show ((j : Int) - 1 + 1).toNat = j by omega]
          exact Dg.same_at al bl j this hd
        clear hd
        go_wp2_with fail
        refine (at_any A n cA j B al w hA.out hn hl).mono ?_; rintro e w' ⟨rfl, rfl⟩
        go_wp2_with fail
        refine (at_any C m cC j D bl w hC.out hm hl2).mono ?_; rintro e w' ⟨rfl, rfl⟩
        go_wp2_with fail
        go_round
        case rel => exact ⟨_, rfl, by omega, by omega, hnext⟩
        case measure => simp [intOf]
      · have hb : ((Dg.dig al j : Int) != (Dg.dig bl j : Int)) = true := by simp; omega
        have hres : Hid (decide (Dg.dig al j < Dg.dig bl j) = decide (Dg.val al < Dg.val bl)) := by
          refine Lib.hid ?_
          have := hinv.out
          rw [show ((j : Int) + 1).toNat = j + 1 by omega] at this
          have := Dg.less_at al bl j this hd
          rw [decide_eq_decide, ← this]
        clear hd
        go_wp2_with fail
        refine (at_any A n cA j B al w hA.out hn hl).mono ?_; rintro e w' ⟨rfl, rfl⟩
        go_wp2_with fail
        refine (at_any C m cC j D bl w hC.out hm hl2).mono ?_; rintro e w' ⟨rfl, rfl⟩
        go_wp2_with fail
        refine (at_any A n cA j B al w hA.out hn hl).mono ?_; rintro e w' ⟨rfl, rfl⟩
        go_wp2_with fail
        refine (at_any C m cC j D bl w hC.out hm hl2).mono ?_; rintro e w' ⟨rfl, rfl⟩
        go_wp2_with fail
        go_ret
        exact ⟨by rw [← hres.out]; rfl, rfl⟩
    · have hi' : i = -1 := by omega
      subst hi'
      have hres : decide (Dg.val al < Dg.val bl) = false := by
        have := hinv.out
        rw [show ((-1 : Int) + 1).toNat = 0 from rfl, List.drop_zero, List.drop_zero] at this
        simp [this]
      have hres' := Lib.hid hres
      clear hres
      go_wp2_with fail
      go_ret
      exact ⟨by rw [hres'.out]; rfl, rfl⟩

theorem infoB : (Try.prog.info? 4).map (fun i => (i.zero, i.size, i.bytes)) = some (some (.bool false), 1, 1) := by kernel_rfl

theorem bools_oneCell (l : List Bool) : ∀ u ∈ l.map Value.bool, u.oneCell' = true := by
  intro u hu
  obtain ⟨b, _, rfl⟩ := List.mem_map.1 hu
  rfl

/-- An append of a slice of digits, nil or not, onto a row of the call's own. -/
theorem append_bits {w : World} {ops : Array Oper} {rest : List Oper} {o : Oper} {a : Act} {Q : Exit → Act → World → Prop} (hgd : o.guard = none) (s x : Operand)
    (ho : o.op = .call { callee := .builtin .append, args := #[s, x], argTypes := #[84, 84] }) (base : Nat)
    (v : Value) (n : Nat) (bl : List Bool) (hs : a.eval s = v) (hown : w.ownsRow base 4 1 v n (bl.map Value.bool)) (B : Nat) (A : Option Addr) (m c : Nat) (news : List Bool) (hx : a.eval x = .slice A m c)
    (hA : A = none → m = 0 ∧ c = 0) (hm : Hid (m = news.length)) (hI : Bits w B A news) (hn : n + m ≤ 1000000) (hbase : base ≤ w.heap.size)
    (h : ∀ v' w', w'.ownsRow base 4 1 v' (n + m) ((bl ++ news).map Value.bool) → w.grownBy w' v.ownBlock → wpList Try.prog ops Q rest (a.put o.dst v') w') : wpList Try.prog ops Q (o :: rest) a w := by
  obtain ⟨i, hi, hz0, hz1, hz2⟩ := info_parts infoB
  have hm' := hm.out
  cases A with
  | none =>
    obtain ⟨rfl, rfl⟩ := hA rfl
    have : news = [] := List.eq_nil_of_length_eq_zero (by omega)
    subst this
    refine wpList_append_own_none hgd s x 84 ho base 4 i 1 Try.underlying84 hi v n (bl.map Value.bool) hs hown hx ?_
    exact h v w (by simpa using hown) (World.grownBy.refl w _)
  | some ad =>
    refine wpList_append_own w hgd s x 84 ho base 4 i (.bool false) 1 1 Try.underlying84 hi hz0 hz1 hz2 rfl (by decide) v n (bl.map Value.bool) hs hown ad m c (news.map Value.bool) hx (by simp; omega) ?_ (bools_oneCell _) (by unfold maxLen; omega) (by omega) hbase ?_
    · intro j u hj
      have hjl : j < news.length := by
        rcases Nat.lt_or_ge j news.length with hlt | hge
        · exact hlt
        · rw [List.getElem?_eq_none (by simpa using hge)] at hj; cases hj
      obtain ⟨a', ha', _, hc⟩ := hI (by omega)
      obtain rfl := Option.some.inj ha'
      rw [hc j hjl]
      simpa [List.getD, List.getElem?_eq_getElem hjl] using hj
    · intro v' w' h1 h2 _
      exact h v' w' (by simpa using h1) h2

/-- A slice of the digits l. -/
structure SlB (w : World) (A : Option Addr) (n c : Nat) (l : List Bool) : Prop where
  len : n = l.length
  cap : n ≤ c
  nil : A = none → n = 0 ∧ c = 0
  bits : Bits w w.heap.size A l
  lt : ∀ a, A = some a → a.block < w.heap.size

theorem SlB.keep {w w' : World} {A : Option Addr} {n c : Nat} {l : List Bool} (h : SlB w A n c l) (hb : Below w.heap.size w w') : SlB w' A n c l :=
  ⟨h.len, h.cap, h.nil, (h.bits.keep hb).more hb.size, fun a e => Nat.lt_of_lt_of_le (h.lt a e) hb.size⟩
theorem SlB.take {w : World} {A : Option Addr} {n c : Nat} {l : List Bool} (h : SlB w A n c l) (k : Nat) (hk : k ≤ n) : SlB w A k c (l.take k) :=
  ⟨by have := h.len; simp; omega, Nat.le_trans hk h.cap, fun e => by have := h.nil e; omega, h.bits.take k, h.lt⟩
theorem SlB.setOther {w : World} {A : Option Addr} {n c : Nat} {l : List Bool} (h : SlB w A n c l) (p : Addr) (hp : ∀ a, A = some a → a.block ≠ p.block) (u : Value) : SlB (w.setCell p u) A n c l :=
  ⟨h.len, h.cap, h.nil, fun hl => by
    obtain ⟨a, e, hb, hc⟩ := h.bits hl
    refine ⟨a, e, by simpa [World.setCell] using hb, fun i hi => ?_⟩
    rw [World.cell?_of_block (w := w) (Below.heap_setCell _ _ _ _ (by rw [add_block]; exact hp a e))]
    exact hc i hi, fun a e => by simpa [World.setCell] using h.lt a e⟩
/-- Where a slice lies that the call has made. -/
def Fresh (B : Nat) (A : Option Addr) : Prop := ∀ a, A = some a → B ≤ a.block
theorem Fresh.mono {B C : Nat} {A : Option Addr} (h : Fresh B A) (hC : C ≤ B) : Fresh C A := fun a e => Nat.le_trans hC (h a e)
theorem slb_nil (w : World) : SlB w none 0 0 [] := ⟨rfl, Nat.le_refl _, fun _ => ⟨rfl, rfl⟩, (fun h => by simp at h), fun a h => by cases h⟩

/-- A row of the call's own, as a slice of digits. -/
theorem bits_own {w : World} {base : Nat} {v : Value} {n : Nat} {bl : List Bool} (h : w.ownsRow base 4 1 v n (bl.map Value.bool)) :
    ∃ (A : Option Addr) (c : Nat), v = .slice A n c ∧ SlB w A n c bl ∧ Fresh base A := by
  have hl : n = bl.length := by have := h.1; simpa using this.symm
  rcases h.2 with ⟨rfl, h0⟩ | ⟨g, cap, cur, rfl, hB, hg, hc, _⟩
  · subst h0
    exact ⟨none, 0, rfl, ⟨hl, Nat.le_refl _, fun _ => ⟨rfl, rfl⟩, (fun hp => by omega), fun a h => by cases h⟩, fun a h => by cases h⟩
  · have hgl : g < w.heap.size := by
      rcases Nat.lt_or_ge g w.heap.size with hlt | hge
      · exact hlt
      · rw [Array.getElem?_eq_none hge] at hg; cases hg
    refine ⟨some ⟨g, 0, none⟩, cap, rfl, ⟨hl, hc, (fun h => by cases h), fun _ => ⟨_, rfl, hgl, fun i hi => ?_⟩, fun a h => by cases h; exact hgl⟩, fun a h => by cases h; exact hB⟩
    refine h.cells (g := g) rfl i _ ?_
    simp [List.getElem?_map, List.getElem?_eq_getElem hi, List.getD]

theorem one_bit (w : World) (t : Bool) : Bits (w.alloc (.cells #[Value.bool t] 4)) (w.alloc (.cells #[Value.bool t] 4)).heap.size (some ⟨w.heap.size, 0, none⟩) [t] := by
  refine fun _ => ⟨_, rfl, by simp, fun i hi => ?_⟩
  simp at hi
  subst hi
  simp [Addr.add, World.cell?_alloc_new]
end Go.Proofs.Ytnmfcbmdopmglaa
