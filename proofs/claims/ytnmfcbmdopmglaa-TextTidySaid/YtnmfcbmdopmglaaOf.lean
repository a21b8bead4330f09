/-
  Contract of the document's answer for lengths: a number of 64 bits by digits.
-/
import Derived.Test.YtnmfcbmdopmglaaMinus
namespace Go.Proofs.Ytnmfcbmdopmglaa
open Go.RowKit

/-- The number that a sign and digits say. -/
def sgn (mi : Bool) (l : List Bool) : Int := if mi then -(Dg.val l : Int) else (Dg.val l : Int)
/-- No needless noughts. -/
def Top (l : List Bool) : Prop := 0 < l.length → l.getD (l.length - 1) false = true
/-- .. and a sign only where there is something. -/
def TopS (mi : Bool) (l : List Bool) : Prop := Top l ∧ (mi = true → 0 < Dg.val l)

/-- What was answered: the number x, by no more than L digits; nothing below changed. -/
def MadeBig (w : World) (x : Int) (L : Nat) (e : Ending) (w' : World) : Prop :=
  ∃ (mi : Bool) (E : Option Addr) (k c : Nat) (l : List Bool), e = .returned (.agg #[.bool mi, .slice E k c]) ∧ k ≤ L ∧ sgn mi l = x ∧ TopS mi l ∧ SlB w' E k c l ∧ Below w.heap.size w w' ∧ Fresh w.heap.size E

/-- A Big that lies in block g. -/
structure BCell (w : World) (g : Nat) (a b : Value) : Prop where
  c0 : w.cell? ⟨g, 0, none⟩ = some a
  c1 : w.cell? ⟨g, 1, none⟩ = some b
  f0 : w.frozen? ⟨g, 0, none⟩ = false
  f1 : w.frozen? ⟨g, 1, none⟩ = false

theorem BCell.lt {w : World} {g : Nat} {a b : Value} (h : BCell w g a b) : g < w.heap.size := World.block_lt_of_cell? w _ h.c0
theorem BCell.alloc {w : World} {g : Nat} {a b : Value} (h : BCell w g a b) (o : Obj) : BCell (w.alloc o) g a b :=
  have hB : Below w.heap.size w (w.alloc o) := (Below.refl _ _).alloc (Nat.le_refl _) o
  ⟨(hB.cell (p := ⟨g, 0, none⟩) h.lt).trans h.c0, (hB.cell (p := ⟨g, 1, none⟩) h.lt).trans h.c1, (hB.frozen (p := ⟨g, 0, none⟩) h.lt).trans h.f0, (hB.frozen (p := ⟨g, 1, none⟩) h.lt).trans h.f1⟩
theorem BCell.below {w w' : World} {g B : Nat} {a b : Value} (h : BCell w g a b) (hB : Below B w w') (hg : g < B) : BCell w' g a b :=
  ⟨(hB.cell (p := ⟨g, 0, none⟩) hg).trans h.c0, (hB.cell (p := ⟨g, 1, none⟩) hg).trans h.c1, (hB.frozen (p := ⟨g, 0, none⟩) hg).trans h.f0, (hB.frozen (p := ⟨g, 1, none⟩) hg).trans h.f1⟩
theorem BCell.grown {w w' : World} {g : Nat} {a b : Value} {row : Option Nat} (h : BCell w g a b) (hG : w.grownBy w' row) (hr : some g ≠ row) : BCell w' g a b :=
  have hb := hG.block g h.lt hr
  ⟨(World.cell?_of_block (a := ⟨g, 0, none⟩) hb).trans h.c0, (World.cell?_of_block (a := ⟨g, 1, none⟩) hb).trans h.c1, (World.frozen?_of_block (a := ⟨g, 0, none⟩) hb).trans h.f0, (World.frozen?_of_block (a := ⟨g, 1, none⟩) hb).trans h.f1⟩
theorem BCell.set1 {w : World} {g : Nat} {a b : Value} (h : BCell w g a b) (u : Value) : BCell (w.setCell ⟨g, 1, none⟩ u) g a u :=
  ⟨(World.cell?_setCell_other _ _ _ _ (by simp)).trans h.c0, World.cell?_setCell_same _ _ _ h.c1, (World.frozen?_setCell _ _ _ _).trans h.f0, (World.frozen?_setCell _ _ _ _).trans h.f1⟩
theorem BCell.set0 {w : World} {g : Nat} {a b : Value} (h : BCell w g a b) (u : Value) : BCell (w.setCell ⟨g, 0, none⟩ u) g u b :=
  ⟨World.cell?_setCell_same _ _ _ h.c0, (World.cell?_setCell_other _ _ _ _ (by simp)).trans h.c1, (World.frozen?_setCell _ _ _ _).trans h.f0, (World.frozen?_setCell _ _ _ _).trans h.f1⟩
theorem BCell.setOther {w : World} {g : Nat} {a b : Value} (h : BCell w g a b) (p : Addr) (hp : p.block ≠ g) (u : Value) : BCell (w.setCell p u) g a b :=
  have hb : (w.setCell p u).heap[g]? = w.heap[g]? := Below.heap_setCell _ _ _ _ (fun e => hp e.symm)
  ⟨(World.cell?_of_block (a := ⟨g, 0, none⟩) hb).trans h.c0, (World.cell?_of_block (a := ⟨g, 1, none⟩) hb).trans h.c1, (World.frozen?_of_block (a := ⟨g, 0, none⟩) hb).trans h.f0, (World.frozen?_of_block (a := ⟨g, 1, none⟩) hb).trans h.f1⟩
theorem BCell.drew {w : World} {g : Nat} {a b : Value} (h : BCell w g a b) : BCell w.drew g a b := ⟨h.c0, h.c1, h.f0, h.f1⟩
theorem SlB.drew {w : World} {A : Option Addr} {n c : Nat} {l : List Bool} (h : SlB w A n c l) : SlB w.drew A n c l := h.keep (Below.refl _ _).drew
theorem BCell.new (w : World) (a b : Value) (t : TypeId) : BCell (w.alloc (.cells #[a, b] t)) w.heap.size a b :=
  ⟨by simp, by simp, by simp, by simp⟩

def OInv (w0 : World) (X : Nat) (mi : Bool) (k y : Nat) (v : Value) (wr : World) : Prop :=
  ∃ out : List Bool, wr.ownsRow (w0.heap.size + 2) 4 1 v k (out.map Value.bool) ∧ out.length = k ∧ Below w0.heap.size w0 wr ∧ BCell wr (w0.heap.size + 1) (.bool mi) v ∧ BCell wr w0.heap.size (.bool false) (.slice none 0 0) ∧
    Dg.val out + 2 ^ k * y = X ∧ (y = 0 → Top out)

theorem oinv_start (w : World) (X : Nat) (mi : Bool) : OInv w X mi 0 X (.slice none 0 0) ((w.alloc (Obj.cells #[Value.bool false, Value.slice none 0 0] 86)).alloc (Obj.cells #[Value.bool mi, Value.slice none 0 0] 86)) :=
  ⟨[], World.ownsRow_nil _ _ _ _, rfl, ((Below.refl _ _).alloc (Nat.le_refl _) _).alloc (by simp) _, by simpa using BCell.new (w.alloc (Obj.cells #[Value.bool false, Value.slice none 0 0] 86)) (.bool mi) (.slice none 0 0) _,
    (BCell.new w _ _ _).alloc _, by simp [Dg.val], fun _ h => by simp at h⟩

theorem oinv_len {w0 wr : World} {X : Nat} {mi : Bool} {k y : Nat} {v : Value} (h : OInv w0 X mi k y v wr) (hX : X ≤ 9223372036854775808) (hy : 0 < y) : k ≤ 63 := by
  obtain ⟨out, _, _, _, _, _, hv, _⟩ := h
  have h1 : 2 ^ k * 1 ≤ 2 ^ k * y := Nat.mul_le_mul_left _ hy
  have h2 : 2 ^ k ≤ 2 ^ 63 := by
    rw [show (2 ^ 63 : Nat) = 9223372036854775808 from by decide]; omega
  exact (Nat.pow_le_pow_iff_right (by omega)).1 h2

theorem oinv_step {w0 wr w' : World} {X : Nat} {mi : Bool} {k y : Nat} {v v' : Value} {out : List Bool} (hy : 0 < y) (hown0 : wr.ownsRow (w0.heap.size + 2) 4 1 v k (out.map Value.bool)) (hl : out.length = k) (hb : Below w0.heap.size w0 wr)
    (h1 : BCell wr (w0.heap.size + 1) (.bool mi) v) (h0 : BCell wr w0.heap.size (.bool false) (.slice none 0 0)) (hv : Dg.val out + 2 ^ k * y = X) (t : Bool) (ht : Dg.b2n t = y % 2) (o : Obj)
    (hown : w'.ownsRow (w0.heap.size + 2) 4 1 v' (k + 1) ((out ++ [t]).map Value.bool)) (hg : (wr.alloc o).grownBy w' v.ownBlock) :
    BCell w' (w0.heap.size + 1) (.bool mi) v ∧ OInv w0 X mi (k + 1) (y / 2) v' (w'.setCell ⟨w0.heap.size + 1, 1, none⟩ v') := by
  have hk : ∀ j, v.ownBlock = some j → w0.heap.size + 2 ≤ j := fun j hj => (hown0.lt j hj).1
  have g1 : BCell w' (w0.heap.size + 1) (.bool mi) v := (h1.alloc o).grown hg (fun e => by have := hk _ e.symm; omega)
  refine ⟨g1, out ++ [t], ownsRow_setCell_below hown (by simp) _, by simp [hl], ((hb.alloc hb.size o).grown hg (by have := hb.size; simp; omega) (fun j hj => by have := hk j hj; omega)).setCell (by simp) _, g1.set1 _,
    ((h0.alloc o).grown hg (fun e => by have := hk _ e.symm; omega)).setOther _ (by simp) _, ?_, fun hz _ => ?_⟩
  · rw [Dg.val_snoc, hl, ht, ← hv, Nat.pow_succ, Nat.add_assoc, Nat.mul_assoc, ← Nat.mul_add]
    congr 2; omega
  · have hy1 : y = 1 := by omega
    subst hy1
    have : t = true := by cases t <;> simp_all [Dg.b2n]
    simp [this]

theorem oinv_end {w0 wr : World} {X : Nat} {mi : Bool} {k : Nat} {v : Value} (h : OInv w0 X mi k 0 v wr) (hX : mi = true → 0 < X) (hk : k ≤ 64) {w' : World} (hw : w' = (wr.setCell ⟨w0.heap.size, 0, none⟩ (.bool mi)).setCell ⟨w0.heap.size, 1, none⟩ v) :
    MadeBig w0 (if mi then -(X : Int) else X) 64 (.returned (.agg #[.bool mi, v])) w' := by
  obtain ⟨out, hown, hol, hbw, h1, h0, hv, ht⟩ := h
  have hown' := ownsRow_setCell_below (ownsRow_setCell_below hown (a := ⟨w0.heap.size, 0, none⟩) (by simp) (.bool mi)) (a := ⟨w0.heap.size, 1, none⟩) (by simp) v
  rw [← hw] at hown'
  obtain ⟨E, c, rfl, hI, hfr⟩ := bits_own hown'
  have hvX : Dg.val out = X := by simpa using hv
  refine ⟨mi, E, k, c, out, rfl, hk, ?_, ⟨ht rfl, fun hm => by rw [hvX]; exact hX hm⟩, hI, ?_, hfr.mono (by omega)⟩
  · unfold sgn; rw [hvX]
  · rw [hw]; exact (hbw.setCell (by simp) _).setCell (by simp) _

set_option maxRecDepth 100000 in
set_option maxHeartbeats 800000 in
theorem of_neg (x : Int) (w : World) (hx : I64 x) (hmi : decide (x < 0) = true) :
    Calls Try.prog 42 #[.int .i64 x] w fun e w' => MadeBig w x 64 e w' := by
  have hb1 : -9223372036854775808 ≤ x := hx.1
  have hb2 : x ≤ 9223372036854775807 := hx.2
  obtain ⟨X, hX⟩ : ∃ X : Nat, (X : Int) = sizeI x := ⟨(sizeI x).toNat, by unfold sizeI; omega⟩
  have hXb : X ≤ 9223372036854775808 := by unfold sizeI at hX; omega
  have hy1 : Hid (x < 0 → IntKind.u64.wrap (-IntKind.u64.wrap x) = (X : Int)) := Lib.hid (by simp only [IntKind.wrap_u64]; unfold sizeI at hX; omega)
  have hy2 : Hid (0 ≤ x → IntKind.u64.wrap x = (X : Int)) := Lib.hid (by simp only [IntKind.wrap_u64]; unfold sizeI at hX; omega)
  have hres : Hid (x = (if decide (x < 0) then -(X : Int) else X)) := Lib.hid (by simp only [decide_eq_true_eq]; unfold sizeI at hX; omega)
  have hXp : Hid (0 < X) := Lib.hid (by have := of_decide_eq_true hmi; unfold sizeI at hX; omega)
  clear hx hX
  · have hst := Lib.hid (oinv_start w X (decide (x < 0)))
    rw [hmi] at hst hres
    go_enter Try.func42, Try.ntmps42
    go_wp2_with fail
    go_loopw [3] (fun y wr => ∃ (k yn : Nat) (v : Value), y = .int .u64 yn ∧ yn ≤ 9223372036854775808 ∧ k ≤ 64 ∧ Hid (OInv w X _ k yn v wr)) (fun y _ => (intOf y).toNat)
    case atStart => exact ⟨0, X, _, by have := of_decide_eq_true hmi; rw [hy1.out this], hXb, by omega, hst⟩
    case round =>
      obtain ⟨k, yn, v, rfl, hyb, hk, hinv⟩ := hrel
      by_cases hy : 0 < yn
      · have hk63 : k ≤ 63 := oinv_len hinv.out hXb hy
        obtain ⟨out, hown, hol, hbw, h1, h0, hval, htop⟩ := hinv.out
        obtain ⟨t, ht⟩ : ∃ t : Bool, Dg.b2n t = yn % 2 := by
          rcases Nat.mod_two_eq_zero_or_one yn with h | h
          · exact ⟨false, by rw [h]; rfl⟩
          · exact ⟨true, by rw [h]; rfl⟩
        have hstep := Lib.hid (fun v' w' h3 h4 => oinv_step (v' := v') (w' := w') hy hown hol hbw h1 h0 hval t ht (.cells #[Value.bool t] 4) h3 h4)
        have hown1 := Lib.hid (hown.alloc (.cells #[Value.bool t] 4))
        have hone := Lib.hid (one_bit wr t)
        have hbs : Hid (w.heap.size + 2 ≤ (wr.alloc (.cells #[Value.bool t] 4)).heap.size) := Lib.hid (by have := h1.lt; simp; omega)
        have hkb : Hid (k + 1 ≤ 1000000) := Lib.hid (by omega)
        have htt : (((yn : Nat) : Int) % 2 == 1) = t := by
          cases t <;> simp [Dg.b2n] at ht ⊢ <;> omega
        have hq : Hid (((yn : Nat) : Int) / 2 = ((yn / 2 : Nat) : Int)) := Lib.hid (by omega)
        have hc1 := h1.c1
        have hc1' := (h1.alloc (.cells #[Value.bool t] 4)).c1
        clear hbw hval hown hol ht hinv htop h1 h0
        go_wp2_with (at_builtin; refine append_bits rfl (.tmp 17) (.tmp 21) rfl (w.heap.size + 2) _ k out rfl hown1.out _ _ 1 1 [t] rfl (fun h => by cases h) (Lib.hid rfl) hone.out hkb.out hbs.out ?_; intro v' w' h3 h4; obtain ⟨A', c', rfl, -⟩ := bits_own h3; obtain ⟨g1, hnx⟩ := hstep.out _ w' h3 h4; have g11 := g1.c1; have g12 := g1.f1; have hnx := Lib.hid hnx; clear h3 h4 g1)
        go_roundw
        case rel => exact ⟨k + 1, _, _, by rw [hq.out], by omega, by omega, hnx⟩
        case measure => simp [intOf]; omega
      · have hy0 : yn = 0 := by omega
        subst hy0
        have hfin := Lib.hid (fun w' => oinv_end (w' := w') hinv.out (fun _ => hXp.out) hk)
        obtain ⟨A', c', rfl⟩ : ∃ A' c', v = .slice A' k c' := by
          obtain ⟨out, hown, _⟩ := hinv.out
          obtain ⟨A', c', h, _⟩ := bits_own hown
          exact ⟨A', c', h⟩
        obtain ⟨out, hown, hol, hbw, h1, h0, hval, htop⟩ := hinv.out
        have hc0 := h0.c0
        have hc1 := h0.c1
        have hf0 := h0.f0
        have hf1 := h0.f1
        have hd0 := h1.c0
        have hd1 := h1.c1
        clear hbw hval hown hol hinv htop h1 h0
        go_wp2_with fail
        have hr := hfin.out _ rfl
        rw [← hres.out] at hr
        exact bodyPost_ret (v := .agg #[.bool true, .slice A' k c']) (by simp [results, Try.results42, go_sem, hc0, hc1]) rfl hr
set_option maxRecDepth 100000 in
set_option maxHeartbeats 800000 in
theorem of_pos (x : Int) (w : World) (hx : I64 x) (hmi : decide (x < 0) = false) :
    Calls Try.prog 42 #[.int .i64 x] w fun e w' => MadeBig w x 64 e w' := by
  have hb1 : -9223372036854775808 ≤ x := hx.1
  have hb2 : x ≤ 9223372036854775807 := hx.2
  obtain ⟨X, hX⟩ : ∃ X : Nat, (X : Int) = sizeI x := ⟨(sizeI x).toNat, by unfold sizeI; omega⟩
  have hXb : X ≤ 9223372036854775808 := by unfold sizeI at hX; omega
  have hy1 : Hid (x < 0 → IntKind.u64.wrap (-IntKind.u64.wrap x) = (X : Int)) := Lib.hid (by simp only [IntKind.wrap_u64]; unfold sizeI at hX; omega)
  have hy2 : Hid (0 ≤ x → IntKind.u64.wrap x = (X : Int)) := Lib.hid (by simp only [IntKind.wrap_u64]; unfold sizeI at hX; omega)
  have hres : Hid (x = (if decide (x < 0) then -(X : Int) else X)) := Lib.hid (by simp only [decide_eq_true_eq]; unfold sizeI at hX; omega)
  clear hx hX
  · have hst := Lib.hid (oinv_start w X (decide (x < 0)))
    rw [hmi] at hst hres
    go_enter Try.func42, Try.ntmps42
    go_wp2_with fail
    go_loopw [3] (fun y wr => ∃ (k yn : Nat) (v : Value), y = .int .u64 yn ∧ yn ≤ 9223372036854775808 ∧ k ≤ 64 ∧ Hid (OInv w X _ k yn v wr)) (fun y _ => (intOf y).toNat)
    case atStart => exact ⟨0, X, _, by have := of_decide_eq_false hmi; rw [hy2.out (by omega)], hXb, by omega, hst⟩
    case round =>
      obtain ⟨k, yn, v, rfl, hyb, hk, hinv⟩ := hrel
      by_cases hy : 0 < yn
      · have hk63 : k ≤ 63 := oinv_len hinv.out hXb hy
        obtain ⟨out, hown, hol, hbw, h1, h0, hval, htop⟩ := hinv.out
        obtain ⟨t, ht⟩ : ∃ t : Bool, Dg.b2n t = yn % 2 := by
          rcases Nat.mod_two_eq_zero_or_one yn with h | h
          · exact ⟨false, by rw [h]; rfl⟩
          · exact ⟨true, by rw [h]; rfl⟩
        have hstep := Lib.hid (fun v' w' h3 h4 => oinv_step (v' := v') (w' := w') hy hown hol hbw h1 h0 hval t ht (.cells #[Value.bool t] 4) h3 h4)
        have hown1 := Lib.hid (hown.alloc (.cells #[Value.bool t] 4))
        have hone := Lib.hid (one_bit wr t)
        have hbs : Hid (w.heap.size + 2 ≤ (wr.alloc (.cells #[Value.bool t] 4)).heap.size) := Lib.hid (by have := h1.lt; simp; omega)
        have hkb : Hid (k + 1 ≤ 1000000) := Lib.hid (by omega)
        have htt : (((yn : Nat) : Int) % 2 == 1) = t := by
          cases t <;> simp [Dg.b2n] at ht ⊢ <;> omega
        have hq : Hid (((yn : Nat) : Int) / 2 = ((yn / 2 : Nat) : Int)) := Lib.hid (by omega)
        have hc1 := h1.c1
        have hc1' := (h1.alloc (.cells #[Value.bool t] 4)).c1
        clear hbw hval hown hol ht hinv htop h1 h0
        go_wp2_with (at_builtin; refine append_bits rfl (.tmp 17) (.tmp 21) rfl (w.heap.size + 2) _ k out rfl hown1.out _ _ 1 1 [t] rfl (fun h => by cases h) (Lib.hid rfl) hone.out hkb.out hbs.out ?_; intro v' w' h3 h4; obtain ⟨A', c', rfl, -⟩ := bits_own h3; obtain ⟨g1, hnx⟩ := hstep.out _ w' h3 h4; have g11 := g1.c1; have g12 := g1.f1; have hnx := Lib.hid hnx; clear h3 h4 g1)
        go_roundw
        case rel => exact ⟨k + 1, _, _, by rw [hq.out], by omega, by omega, hnx⟩
        case measure => simp [intOf]; omega
      · have hy0 : yn = 0 := by omega
        subst hy0
        have hfin := Lib.hid (fun w' => oinv_end (w' := w') hinv.out (fun h => by cases h) hk)
        obtain ⟨A', c', rfl⟩ : ∃ A' c', v = .slice A' k c' := by
          obtain ⟨out, hown, _⟩ := hinv.out
          obtain ⟨A', c', h, _⟩ := bits_own hown
          exact ⟨A', c', h⟩
        obtain ⟨out, hown, hol, hbw, h1, h0, hval, htop⟩ := hinv.out
        have hc0 := h0.c0
        have hc1 := h0.c1
        have hf0 := h0.f0
        have hf1 := h0.f1
        have hd0 := h1.c0
        have hd1 := h1.c1
        clear hbw hval hown hol hinv htop h1 h0
        go_wp2_with fail
        have hr := hfin.out _ rfl
        rw [← hres.out] at hr
        exact bodyPost_ret (v := .agg #[.bool false, .slice A' k c']) (by simp [results, Try.results42, go_sem, hc0, hc1]) rfl hr
theorem of_any (x : Int) (w : World) (hx : I64 x) :
    Calls Try.prog 42 #[.int .i64 x] w fun e w' => MadeBig w x 64 e w' := by
  rcases hmi : decide (x < 0) with _ | _
  · exact of_pos x w hx hmi
  · exact of_neg x w hx hmi
end Go.Proofs.Ytnmfcbmdopmglaa
