/-
  Rows of words, as a relation that lets no two answers stand (pure); contract of package text: rows, a function that tells each row in turn.
-/
import Derived.Test.YtnmfcbmdopmglaaRowWide
import Derived.Test.YtnmfcbmdopmglaaPlaces
namespace Go.Proofs.Ytnmfcbmdopmglaa
open Go.RowKit Go.Shelf
set_option linter.unusedVariables false
attribute [local go_sem] Oper.semAt_some

structure Rg where
  a : Nat
  b : Nat
deriving DecidableEq
/-- Does the word at a place stand in the row of the one ahead? -/
def joinB (l : List Wrd) (i : Nat) : Bool := match l[i]? with | some x => decide (x.e ≤ 0) | none => false
def RNxt (l : List Wrd) (a : Nat) (r : Rg) : Prop := r.a = a ∧ a < r.b ∧ r.b ≤ l.length ∧ (∀ i, a < i → i < r.b → joinB l i = true) ∧ joinB l r.b = false
def Rws (l : List Wrd) : Nat → List Rg → Nat → Prop
  | a, [], z => a = z
  | a, r :: rs, z => RNxt l a r ∧ Rws l r.b rs z
/-- These are all rows. -/
def RWhl (l : List Wrd) (rs : List Rg) : Prop := Rws l 0 rs l.length
theorem RNxt.uniq {l : List Wrd} {a : Nat} {r q : Rg} (h : RNxt l a r) (k : RNxt l a q) : r = q := by
  obtain ⟨h1, h2, h3, h4, h5⟩ := h
  obtain ⟨k1, k2, k3, k4, k5⟩ := k
  have e : r.b = q.b := by
    rcases Nat.lt_trichotomy r.b q.b with h | h | h
    · have := k4 r.b h2 h; rw [h5] at this; cases this
    · exact h
    · have := h4 q.b k2 h; rw [k5] at this; cases this
  cases r; cases q
  simp only at h1 k1 e
  subst h1 k1 e
  rfl
theorem rws_uniq {l : List Wrd} : ∀ (rs qs : List Rg) (a : Nat), Rws l a rs l.length → Rws l a qs l.length → rs = qs
  | [], [], _, _, _ => rfl
  | [], q :: qs, a, h, k => by
    have h : a = l.length := h
    have := k.1.2.1; have := k.1.2.2.1; omega
  | r :: rs, [], a, h, k => by
    have k : a = l.length := k
    have := h.1.2.1; have := h.1.2.2.1; omega
  | r :: rs, q :: qs, a, h, k => by
    obtain rfl := h.1.uniq k.1
    rw [rws_uniq rs qs r.b h.2 k.2]
theorem RWhl.uniq {l : List Wrd} {rs qs : List Rg} (h : RWhl l rs) (k : RWhl l qs) : rs = qs := rws_uniq rs qs 0 h k
theorem rws_snoc {l : List Wrd} : ∀ (rs : List Rg) (a z : Nat) (r : Rg), Rws l a rs z → RNxt l z r → Rws l a (rs ++ [r]) r.b
  | [], a, z, r, h, hr => by cases h; exact ⟨hr, rfl⟩
  | q :: rs, a, z, r, h, hr => ⟨h.1, rws_snoc rs q.b z r h.2 hr⟩
theorem RWhl.of {l : List Wrd} {rs : List Rg} {s : Nat} (h : Rws l 0 rs s) (e : s = l.length) : RWhl l rs := by subst e; exact h
theorem rws_len {l : List Wrd} : ∀ (rs : List Rg) (a z : Nat), Rws l a rs z → a + rs.length ≤ z
  | [], a, z, h => by cases h; simp
  | q :: rs, a, z, h => by
    have := rws_len rs q.b z h.2
    have := h.1.2.1
    simp only [List.length_cons]
    omega

/-- What the loop of rows keeps. -/
structure RoInv (l : List Wrd) (k s : Nat) (rs : List Rg) : Prop where
  chn : Rws l 0 rs s
  lt : s < k ∨ (k = 0 ∧ s = 0)
  all : ∀ i, s < i → i < k → joinB l i = true
theorem RoInv.start (l : List Wrd) : RoInv l 0 0 [] := ⟨rfl, .inr ⟨rfl, rfl⟩, fun i h1 h2 => by omega⟩
theorem RoInv.stay {l : List Wrd} {k s : Nat} {rs : List Rg} (h : RoInv l k s rs) (hk : k = 0 ∨ joinB l k = true) : RoInv l (k + 1) s rs := by
  refine ⟨h.chn, .inl (by rcases h.lt with h | h <;> omega), fun i h1 h2 => ?_⟩
  by_cases e : i = k
  · subst e
    rcases hk with h0 | h0
    · omega
    · exact h0
  · exact h.all i h1 (by omega)
theorem RoInv.next {l : List Wrd} {k s : Nat} {rs : List Rg} (h : RoInv l k s rs) (h0 : 0 < k) (hk : k < l.length) (hj : joinB l k = false) : RoInv l (k + 1) k (rs ++ [⟨s, k⟩]) := by
  have hs : s < k := by rcases h.lt with h | h <;> omega
  exact ⟨rws_snoc rs 0 s ⟨s, k⟩ h.chn ⟨rfl, hs, by show k ≤ _; omega, h.all, hj⟩, .inl (by omega), fun i h1 h2 => by omega⟩
theorem RoInv.last {l : List Wrd} {s : Nat} {rs : List Rg} (h : RoInv l l.length s rs) (hs : s < l.length) : RWhl l (rs ++ [⟨s, l.length⟩]) :=
  rws_snoc rs 0 s ⟨s, l.length⟩ h.chn ⟨rfl, hs, Nat.le_refl _, h.all, by unfold joinB; rw [List.getElem?_eq_none (Nat.le_refl _)]⟩
theorem RoInv.to {l : List Wrd} {n s : Nat} {rs : List Rg} (h : RoInv l n s rs) (e : n = l.length) : RoInv l l.length s rs := e ▸ h

abbrev RgN (n : Nat) := { r : Rg // r.a < r.b ∧ r.b ≤ n }
def rgs {n : Nat} (l : List (RgN n)) : List Rg := l.map (·.1)
theorem rgs_snoc {n : Nat} (l : List (RgN n)) (p : RgN n) : rgs (l ++ [p]) = rgs l ++ [p.1] := by simp [rgs]

set_option maxRecDepth 100000 in
theorem slice_wrd (U : Addr) (n c a b : Nat) (hab : a ≤ b) (hb : b ≤ c) (hac : a < c) (w : World) :
    (Instr.slice 48 (.slice (some U) n c) (some (.int .i64 (a : Int))) (some (.int .i64 (b : Int))) none).run Try.prog w = .ok (.slice (some (U.add (a * 5))) (b - a) (c - a)) w := by
  rw [run_slice_lh (P := Try.prog) (w := w) 48 (some U) n c Try.underlying48 .i64 .i64 (a : Int) (b : Int) (by omega) (by omega) (by omega)]
  have h1 : ¬ c = a := by omega
  have hs : (sizeOf (Try.prog.elem 48)).run Try.prog w = .ok 5 w := by kernel_rfl
  rw [hs]
  simp [Result.andThen, sliced, h1]
set_option maxRecDepth 100000 in
theorem slice_wrd_l (U : Addr) (n c a : Nat) (hb : n ≤ c) (hac : a < n) (w : World) :
    (Instr.slice 48 (.slice (some U) n c) (some (.int .i64 (a : Int))) none none).run Try.prog w = .ok (.slice (some (U.add (a * 5))) (n - a) (c - a)) w := by
  rw [run_slice_l (P := Try.prog) (w := w) 48 (some U) n c Try.underlying48 .i64 (a : Int) (by omega) (by omega)]
  have h1 : ¬ c = a := by omega
  have hs : (sizeOf (Try.prog.elem 48)).run Try.prog w = .ok 5 w := by kernel_rfl
  rw [hs]
  simp [Result.andThen, sliced, h1]

/-- A row, as rows hands it on. -/
abbrev rgV (R : Option Addr) (c : Nat) (r : Rg) : Value := .slice (R.map fun q => q.add (r.a * 5)) (r.b - r.a) (c - r.a)

set_option maxRecDepth 100000 in
set_option maxHeartbeats 2000000 in
theorem rows1_in (m l Bs n c : Nat) (hm : 1 ≤ m) (R : Option Addr) (ws : List Wrd) (w0 : World) (hR : Hid (Sl wrdE w0 R n c ws)) (hn : n ≤ 1000000) (J Jx : List (RgN n) → World → Prop)
    (hY : Hid (∀ pre (x : RgN n) W, J pre W → pre.length < n → YieldAt Fence.wide (m - 1) Try.prog l #[rgV R c x.1] W fun e W' =>
      (e = .returned (.bool true) ∧ J (pre ++ [x]) W' ∧ KpB w0.heap.size Bs W W') ∨ (e = .returned (.bool false) ∧ Jx (pre ++ [x]) W')))
    (W : World) (hJa : Hid (AbidesFrom W.heap.size J)) (hb : Hid (Below w0.heap.size w0 W)) (hBs : W.cell? ⟨Bs, 0, none⟩ = some (.slice R n c)) (h0 : Hid (J [] W)) :
    CallsIn Fence.wide m Try.prog 59 #[.func (.yield l) #[] #[], .pointer (some ⟨Bs, 0, none⟩)] W fun e W' => (∃ v, e = .returned v) ∧
      ((∃ ys, RWhl ws (rgs ys) ∧ J ys W') ∨ (∃ pre, True ∧ Jx pre W')) := by
  refine callsIn_of_wp Try.func59 rfl trivial ?_ rfl
  simp only [Try.ntmps59, List.size_toArray, List.length_cons, List.length_nil, Nat.reduceAdd, Nat.reduceSub, Array.replicate_succ, Array.replicate_zero, List.push_toArray, List.append_toArray, List.nil_append, List.cons_append]
  have hst : Hid (RoInv ws 0 0 (rgs ([] : List (RgN n)))) := Lib.hid (RoInv.start ws)
  have hBlt := World.block_lt_of_cell? W _ hBs
  gi_wp2
  gi_loopw [3, 8] (fun f i wr => ∃ (k s : Nat) (pre : List (RgN n)), k ≤ n ∧ i = .int .i64 k ∧ f = .int .i64 s ∧ Hid (RoInv ws k s (rgs pre)) ∧ Hid (J pre wr) ∧ Hid (KpB w0.heap.size Bs W wr) ∧ W.heap.size ≤ wr.heap.size)
    (fun _ i _ => n - (intOf i).toNat)
  case atStart => exact ⟨0, 0, [], Nat.zero_le _, rfl, rfl, hst, h0, Lib.hid (KpB.refl _ _ _), Nat.le_refl _⟩
  case round =>
    obtain ⟨k, s, pre, hk, rfl, rfl, hP, hJ, hK, hwz⟩ := hrel
    clear hst h0
    have hl1 := rws_len _ _ _ hP.out.chn
    have hpl : pre.length = (rgs pre).length := by simp [rgs]
    have hBw := hK.out.2.trans hBs
    have hlen := hR.out.len
    have i1 : (0 : Int) ≤ (k : Int) := by omega
    by_cases hlt : k < n
    · have i2 : (k : Int) < (n : Int) := by omega
      obtain ⟨x, hx⟩ : ∃ x, ws[k]? = some x := ⟨ws[k]'(by omega), List.getElem?_eq_getElem _⟩
      obtain ⟨a0, rfl, hab, c0, c1, c2, c3, c4⟩ := (hR.out.at_.keep (hb.out.trans hK.out.1)).wrd hx
      have hjn : joinB ws k = decide (x.e ≤ 0) := by unfold joinB; rw [hx]
      have hJ2 : ∀ o : Obj, J pre (wr.alloc o) := fun o => hJa.out _ _ _ none hJ.out (World.grownBy_alloc wr o none) (fun r e => by cases e)
      have hK2 : ∀ o : Obj, KpB w0.heap.size Bs W (wr.alloc o) := fun o => hK.out.trans ⟨(Below.refl _ wr).alloc (by have := hb.out.size; omega) o, World.cell?_of_block (a := ⟨Bs, 0, none⟩) (Below.heap_alloc wr o _ (by show Bs < _; have : Bs < W.heap.size := hBlt; omega))⟩
      have hz2 : ∀ o : Obj, W.heap.size ≤ (wr.alloc o).heap.size := fun o => by simp; omega
      replace hJ2 := Lib.hid hJ2
      replace hK2 := Lib.hid hK2
      replace hz2 := Lib.hid hz2
      replace hlen := Lib.hid hlen
      replace hpl := Lib.hid hpl
      clear hx
      by_cases hk0 : k = 0
      · have hP2 := Lib.hid (hP.out.stay (.inl hk0))
        have hk1 : ((k : Int) == 0) = true := by simpa using hk0
        replace hk0 := Lib.hid hk0
        gi_wp2
        go_roundw
        case rel => exact ⟨k + 1, s, pre, by omega, by go_num, rfl, hP2, Lib.hid (hJ2.out _), Lib.hid (hK2.out _), hz2.out _⟩
        case measure => simp [intOf]; omega
      · have hpos : 0 < k := by omega
        have hkne : ((k : Int) == 0) = false := by simpa using hk0
        clear hk0
        by_cases he : x.e ≤ 0
        · have hP2 := Lib.hid (hP.out.stay (.inr (by rw [hjn]; exact decide_eq_true he)))
          clear hjn
          gi_wp2
          go_roundw
          case rel => exact ⟨k + 1, s, pre, by omega, by go_num, rfl, hP2, Lib.hid (hJ2.out _), Lib.hid (hK2.out _), hz2.out _⟩
          case measure => simp [intOf]; omega
        · have hP2 := hP.out.next hpos (by rw [← hlen.out]; exact hlt) (by rw [hjn]; exact decide_eq_false he)
          have hsk : s < k := by rcases hP.out.lt with h | h <;> omega
          have hcap := hR.out.cap
          have hsl := slice_wrd a0 n c s k (Nat.le_of_lt hsk) (by omega) (by omega)
          obtain ⟨y, hy0⟩ : ∃ y : RgN n, y = ⟨⟨s, k⟩, hsk, hk⟩ := ⟨_, rfl⟩
          have hyv : y.1 = ⟨s, k⟩ := by rw [hy0]
          have hP3 : Hid (RoInv ws (k + 1) k (rgs (pre ++ [y]))) := by refine Lib.hid ?_; rw [rgs_snoc, hyv]; exact hP2
          have hYY := fun o => hY.out pre y (wr.alloc o) (hJ2.out o) (by have := hpl.out; omega)
          rw [hyv] at hYY
          dsimp only [rgV, Option.map_some] at hYY
          have j1 : (s : Int) < (k : Int) := by omega
          have he' : ¬ x.e ≤ 0 := he
          obtain ⟨fn, tmps, assign, body, hy, hRR⟩ := hYY (.cells #[.int .i64 x.s, .int .i64 x.t, .int .i64 x.w, .int .i64 x.g, .int .i64 x.e] 58)
          have hBw2 := (hK2.out (.cells #[.int .i64 x.s, .int .i64 x.t, .int .i64 x.w, .int .i64 x.g, .int .i64 x.e] 58)).2.trans hBs
          replace hRR := Lib.hid hRR
          clear hYY hP2 hy0 hyv hP hl1 hjn
          gi_wp2
          refine hRR.out.mono ?_
          rintro e W3 (⟨rfl, hJ3, hk3⟩ | ⟨rfl, hJx3⟩)
          · replace hJ3 := Lib.hid hJ3
            have hz3 : W.heap.size ≤ W3.heap.size := by have := hk3.1.size; have := hz2.out (.cells #[.int .i64 x.s, .int .i64 x.t, .int .i64 x.w, .int .i64 x.g, .int .i64 x.e] 58); omega
            have hK3 := Lib.hid ((hK2.out _).trans hk3)
            clear hk3 hK hJ hsl
            gi_wp2
            go_roundw
            case rel => exact ⟨k + 1, k, pre ++ [y], by omega, by go_num, by go_num, hP3, hJ3, hK3, hz3⟩
            case measure => simp [intOf]; omega
          · replace hJx3 := Lib.hid hJx3
            gi_wp2
            refine bodyPost_ret (results_none rfl _ _ _) rfl ?_
            exact ⟨⟨_, rfl⟩, .inr ⟨_, trivial, hJx3.out⟩⟩
    · obtain rfl : n = k := by omega
      by_cases hsn : s < n
      · have hW := (hP.out.to hlen).last (by omega)
        obtain ⟨a0, rfl⟩ : ∃ a0, R = some a0 := by
          cases R with
          | none => have := (hR.out.nil rfl).1; omega
          | some a0 => exact ⟨a0, rfl⟩
        have hsl := slice_wrd_l a0 n c s hR.out.cap hsn
        have j1 : (s : Int) < (n : Int) := by omega
        obtain ⟨y, hy0⟩ : ∃ y : RgN n, y = ⟨⟨s, n⟩, hsn, Nat.le_refl _⟩ := ⟨_, rfl⟩
        have hyv : y.1 = ⟨s, n⟩ := by rw [hy0]
        obtain ⟨fn, tmps, assign, body, hy, hRR⟩ := hY.out pre y wr hJ.out (by omega)
        rw [hyv] at hy
        dsimp only [rgV, Option.map_some] at hy
        have hW2 : Hid (RWhl ws (rgs (pre ++ [y]))) := by
          have e : (⟨s, n⟩ : Rg) = ⟨s, ws.length⟩ := by rw [← hlen]
          refine Lib.hid ?_
          rw [rgs_snoc, hyv, e]
          exact hW
        replace hRR := Lib.hid hRR
        replace hlen := Lib.hid hlen
        clear hW hy0 hyv hP hl1 hpl
        gi_wp2
        refine hRR.out.mono ?_
        rintro e W3 (⟨rfl, hJ3, hk3⟩ | ⟨rfl, hJx3⟩)
        · replace hJ3 := Lib.hid hJ3
          gi_wp2
          go_end0
          exact ⟨⟨_, rfl⟩, .inl ⟨_, hW2.out, hJ3.out⟩⟩
        · replace hJx3 := Lib.hid hJx3
          gi_wp2
          go_end0
          exact ⟨⟨_, rfl⟩, .inr ⟨_, trivial, hJx3.out⟩⟩
      · have hs0 : s = n := by rcases hP.out.lt with h | h <;> omega
        have hW : Hid (RWhl ws (rgs pre)) := Lib.hid (by
          have e : s = ws.length := hs0.trans hlen
          have h : Rws ws 0 (rgs pre) s := hP.out.chn
          exact RWhl.of h e)
        have hsn' : ¬ (s : Int) < (n : Int) := by omega
        replace hlen := Lib.hid hlen
        replace hs0 := Lib.hid hs0
        clear hP hpl
        gi_wp2
        go_end0
        exact ⟨⟨_, rfl⟩, .inl ⟨_, hW.out, hJ.out⟩⟩
end Go.Proofs.Ytnmfcbmdopmglaa
