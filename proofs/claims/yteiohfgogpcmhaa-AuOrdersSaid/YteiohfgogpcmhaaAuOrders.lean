/-
  What au.Sum answers does not hang on the order of its numbers, and of two lists it is the sum of their sums where none is beyond: for every input, no conditions.
-/
import Derived.Test.YteiohfgogpcmhaaWorks
import Derived.Test.YteiohfgogpcmhaaLaw
import Derived.ProofKit
import Derived.OpenShut
import Derived.BigGuard
namespace Go.Proofs.Yteiohfgogpcmhaa.lawAuOrders
open Go.ChangeShapes Go.WideShapes Go.ChangeAt Go.RowKit Go.Proofs.Yteiohfgogpcmhaa
set_option linter.unusedVariables false

theorem own : ownKnob Try.prog.godebug = none := by kernel_rfl

theorem more_ {w : World} {B B' : Nat} {A : Option Addr} {zs : List Int} (h : Ints w B A zs) (hB : B ≤ B') : Ints w B' A zs :=
  ⟨h.1, fun hl => by
    obtain ⟨a, e, hb, hc⟩ := h.2 hl
    exact ⟨a, e, Nat.lt_of_lt_of_le hb hB, hc⟩⟩

theorem sum_rev : ∀ l : List Int, l.reverse.sum = l.sum
  | [] => rfl
  | z :: l => by simp [sum_rev l, Int.add_comm]

theorem one_ints (w : World) (x : Int) (hx : I64 x) : Ints (w.alloc (.cells #[Value.int .i64 x] 2)) (w.alloc (.cells #[Value.int .i64 x] 2)).heap.size (some ⟨w.heap.size, 0, none⟩) [x] := by
  refine ⟨fun z hz => by simp at hz; subst hz; exact hx, fun _ => ⟨_, rfl, by simp, fun i hi => ?_⟩⟩
  simp at hi
  subst hi
  simp [Addr.add, World.cell?_alloc_new]

theorem two_ints (w : World) (x y : Int) (hx : I64 x) (hy : I64 y) : Ints (w.alloc (.cells #[Value.int .i64 x, Value.int .i64 y] 2)) (w.alloc (.cells #[Value.int .i64 x, Value.int .i64 y] 2)).heap.size (some ⟨w.heap.size, 0, none⟩) [x, y] := by
  refine ⟨fun z hz => ?_, fun _ => ⟨_, rfl, by simp, fun i hi => ?_⟩⟩
  · simp at hz
    rcases hz with rfl | rfl
    · exact hx
    · exact hy
  · simp at hi
    rcases (show i = 0 ∨ i = 1 by omega) with rfl | rfl <;> simp [Addr.add, World.cell?_alloc_new]

theorem near_of {s : Int} (h : farI s = false) : cutI s = s ∧ s = s ∧ I64 s := by
  unfold farI at h
  simp only [decide_eq_false_iff_not] at h
  refine ⟨?_, rfl, ?_⟩
  · unfold cutI; rw [if_neg (by omega), if_neg (by omega)]
  · unfold I64; omega

/-- What the loop keeps: the reversed row so far. -/
def Inv (w2 : World) (all : List Int) (i : Int) (v : Value) (wr : World) : Prop :=
  wr.ownsRow w2.heap.size 2 1 v ((all.length : Int) - 1 - i).toNat ((all.drop (i + 1).toNat).reverse.map (Value.int .i64)) ∧ Below w2.heap.size w2 wr

theorem inv_step {w2 wr w' : World} {all : List Int} {j : Nat} {v v' : Value} (hj : j < all.length) (h : Inv w2 all (j : Int) v wr) (o : Obj)
    (hown : w'.ownsRow w2.heap.size 2 1 v' (((all.length : Int) - 1 - (j : Int)).toNat + 1) (((all.drop ((j : Int) + 1).toNat).reverse ++ [all.getD j 0]).map (Value.int .i64))) (hg : (wr.alloc o).grownBy w' v.ownBlock) :
    Inv w2 all ((j : Int) - 1) v' w' := by
  refine ⟨?_, ?_⟩
  · have e1 : ((all.length : Int) - 1 - ((j : Int) - 1)).toNat = ((all.length : Int) - 1 - (j : Int)).toNat + 1 := by omega
    have e2 : ((j : Int) - 1 + 1).toNat = j := by omega
    have e3 : ((j : Int) + 1).toNat = j + 1 := by omega
    rw [e1, e2]
    rw [e3] at hown
    have e4 : all.drop j = all.getD j 0 :: all.drop (j + 1) := by
      rw [List.drop_eq_getElem_cons hj]; simp [List.getD, List.getElem?_eq_getElem hj]
    rw [e4, List.reverse_cons]
    exact hown
  · exact (h.2.alloc h.2.size o).grown hg (by have := h.2.size; simp; omega) (fun k hk => (h.1.lt k hk).1)

set_option maxRecDepth 200000 in
set_option maxHeartbeats 3200000 in
theorem small_ (A B : Option Addr) (n m cA cB : Nat) (l r : List Int) (w : World) (hl : Hid (n = l.length)) (hr : Hid (m = r.length)) (hsz : n + m ≤ 300) (hAl : Hid (Ints w w.heap.size A l)) (hBl : Hid (Ints w w.heap.size B r)) (hA : Hid (A = none → n = 0 ∧ cA = 0)) (hB : Hid (B = none → m = 0 ∧ cB = 0)) :
    Calls Try.prog 7 #[.slice A n cA, .slice B m cB] w fun e w' => e = .returned (.bool true) ∧ Below w.heap.size w w' := by
  have hown0 := Lib.hid (World.ownsRow_lit (base := w.heap.size) (e := 2) (size := 1) w #[] 0 (Nat.le_refl _) (Nat.zero_le _) (by rfl))
  have hb0 := Lib.hid ((Below.refl w.heap.size w).alloc (Nat.le_refl _) (.cells #[] 2))
  have hlen : Hid ((l ++ r).length = n + m) := Lib.hid (by rw [List.length_append, ← hl.out, ← hr.out])
  go_enter Try.func7, Try.ntmps7
  go_wp2_with (first
    | (at_builtin; refine append_ints rfl (.tmp 25) (.tmp 26) rfl w.heap.size _ 0 [] rfl hown0.out w.heap.size A n cA l rfl hA.out hl (hAl.out.keep hb0.out) (by omega) (by simp) ?_; intro v1 w1 hown1 hgr1; have hb1 := Lib.hid (hb0.out.grown hgr1 (by simp) (fun k hk => (hown0.out.lt k hk).1)); have hown1 := Lib.hid hown1; clear hgr1)
    | (at_builtin; refine append_ints rfl (.tmp 27) (.tmp 28) rfl w.heap.size _ (0 + n) ([] ++ l) rfl hown1.out w.heap.size B m cB r rfl hB.out hr (hBl.out.keep hb1.out) (by omega) (by exact hb1.out.size) ?_; intro v2 w2 hown2 hgr2; have hb2 := Lib.hid (hb1.out.grown hgr2 hb1.out.size (fun k hk => (hown1.out.lt k hk).1)); clear hgr2; simp only [Nat.zero_add, List.nil_append] at hown2; obtain ⟨A2, c2, rfl, -, hI2⟩ := ints_own hown2 (by intro z hz; rcases List.mem_append.1 hz with h | h; exact hAl.out.1 z h; exact hBl.out.1 z h); have hI2 := Lib.hid hI2; clear hown2))
  have hz : Hid (∀ z ∈ l ++ r, I64 z) := Lib.hid (by intro z hz; rcases List.mem_append.1 hz with h | h; exact hAl.out.1 z h; exact hBl.out.1 z h)
  have hst : Hid (Inv w2 (l ++ r) ((n : Int) + (m : Int) - 1) (.slice none 0 0) w2) := by
    refine Lib.hid ⟨?_, Below.refl _ _⟩
    rw [hlen.out]
    have e1 : (((n + m : Nat) : Int) - 1 - ((n : Int) + (m : Int) - 1)).toNat = 0 := by omega
    have e2 : ((n : Int) + (m : Int) - 1 + 1).toNat = n + m := by omega
    rw [e1, e2, List.drop_of_length_le (by rw [hlen.out]; exact Nat.le_refl _)]
    exact World.ownsRow_nil _ _ _ _
  go_loopw [5, 7] (fun v i wr => ∃ i' : Int, i = .int .i64 i' ∧ -1 ≤ i' ∧ i' < (n : Int) + (m : Int) ∧ Hid (Inv w2 (l ++ r) i' v wr)) (fun _ i _ => (intOf i + 1).toNat)
  case atStart => exact ⟨_, rfl, by omega, by omega, hst⟩
  case round =>
    obtain ⟨i, rfl, hi1, hi2, hinv⟩ := hrel
    by_cases hi : 0 ≤ i
    · obtain ⟨j, rfl⟩ := Int.eq_ofNat_of_zero_le hi
      have hjl : Hid (j < (l ++ r).length) := Lib.hid (by rw [hlen.out]; omega)
      obtain ⟨a, rfl, hab, hac⟩ := (hI2.out.keep hinv.out.2).2 (Nat.lt_of_le_of_lt (Nat.zero_le _) hjl.out)
      have hc := hac j hjl.out
      clear hac hab
      have hxj : I64 ((l ++ r).getD j 0) := by
        rw [List.getD_eq_getElem?_getD, List.getElem?_eq_getElem hjl.out]
        exact hz.out _ (List.getElem_mem hjl.out)
      have hstep := Lib.hid (fun v' w' h1 h2 => inv_step (v' := v') (w' := w') hjl.out hinv.out (.cells #[Value.int .i64 ((l ++ r).getD j 0)] 2) h1 h2)
      have hone := Lib.hid (one_ints wr _ hxj)
      have hcount : ((((l ++ r).length : Nat) : Int) - 1 - (j : Int)).toNat + 1 ≤ 1000000 := by rw [hlen.out]; omega
      have hown := Lib.hid (hinv.out.1.alloc (.cells #[Value.int .i64 ((l ++ r).getD j 0)] 2))
      have hbs : w2.heap.size ≤ (wr.alloc (.cells #[Value.int .i64 ((l ++ r).getD j 0)] 2)).heap.size := by have := hinv.out.2.size; simp; omega
      have hbs := Lib.hid hbs
      have hcount := Lib.hid hcount
      clear hxj
      generalize (l ++ r).getD j 0 = x at *
      generalize hcn : ((((l ++ r).length : Nat) : Int) - 1 - (j : Int)).toNat = cn at *
      have hcn' := Lib.hid hcn
      clear hcn
      go_wp2_with (at_builtin; refine append_ints rfl (.tmp 37) (.tmp 42) rfl w2.heap.size _ cn _ rfl hown.out _ _ 1 1 [x] rfl (fun h => by cases h) (Lib.hid rfl) hone.out hcount.out hbs.out ?_; intro v' w' h1 h2; have hnx := Lib.hid (hstep.out v' w' h1 h2); clear h1 h2)
      go_roundw
      case rel => exact ⟨_, rfl, by omega, by omega, hnx⟩
      case measure => simp [intOf]
    · have hi' : i = -1 := by omega
      subst hi'
      have hown := hinv.out.1
      have e1 : ((((l ++ r).length : Nat) : Int) - 1 - (-1)).toNat = n + m := by rw [hlen.out]; omega
      rw [e1, show ((-1 : Int) + 1).toNat = 0 from rfl, List.drop_zero] at hown
      obtain ⟨A3, c3, rfl, hl3, hI3⟩ := ints_own hown (by intro z hz'; exact hz.out z (List.mem_reverse.1 hz'))
      have hl3' := Lib.hid hl3
      clear hl3
      have hl2 := Lib.hid hlen.out.symm
      have hbw := hb2.out.trans (hinv.out.2.mono hb2.out.size)
      have hs2 := hb2.out.size
      have hsr := hinv.out.2.size
      have cA1 := Lib.hid (sum_any A cA n l)
      have cB1 := Lib.hid (sum_any B cB m r)
      have c21 := Lib.hid (sum_any A2 c2 (n + m) (l ++ r))
      have c31 := Lib.hid (sum_any A3 c3 (n + m) (l ++ r).reverse)
      have hIA := hAl.out.keep hbw
      have hIB := hBl.out.keep hbw
      have hI2' := hI2.out.keep hinv.out.2
      have hsum : Hid ((l ++ r).reverse.sum = (l ++ r).sum) := Lib.hid (sum_rev _)
      have hsum2 : Hid ((l ++ r).sum = l.sum + r.sum) := Lib.hid (List.sum_append ..)
      have kA := Lib.hid (more_ hIA (B' := wr.heap.size) (by omega))
      have kB := Lib.hid (more_ hIB (B' := wr.heap.size) (by omega))
      have k2 := Lib.hid (more_ hI2' (B' := wr.heap.size) hsr)
      have k3 := Lib.hid hI3
      have hbw := Lib.hid hbw
      clear hIA hIB hI2' hI3 hown e1 hs2 hsr hi hi1 hi2 hinv
      have hn3 : n + m ≤ 1000000 := by omega
      have hnA : n ≤ 1000000 := by omega
      have hnB : m ≤ 1000000 := by omega
      obtain ⟨X, hX⟩ : ∃ X, Hid (cutI (l ++ r).sum = X) := ⟨_, Lib.hid rfl⟩
      obtain ⟨G, hG⟩ : ∃ G, Hid (farI (l ++ r).sum = G) := ⟨_, Lib.hid rfl⟩
      have hn3 := Lib.hid hn3
      have hnA := Lib.hid hnA
      have hnB := Lib.hid hnB
      go_wp2_with fail
      refine (c21.out wr k2.out hl2 hn3.out).mono ?_
      rintro e w3 ⟨rfl, hq3⟩
      rw [hX.out, hG.out]
      have k3' := Lib.hid (more_ (k3.out.keep hq3.1) hq3.1.size)
      have kA' := Lib.hid (more_ (kA.out.keep hq3.1) hq3.1.size)
      have kB' := Lib.hid (more_ (kB.out.keep hq3.1) hq3.1.size)
      have hbw3 := Lib.hid (hbw.out.trans (hq3.1.mono (by have := hbw.out.size; omega)))
      clear hq3
      go_wp2_with fail
      refine (c31.out w3 k3'.out hl3' hn3.out).mono ?_
      rintro e w4 ⟨rfl, hq4⟩
      rw [hsum.out, hX.out, hG.out]
      have kA := Lib.hid (more_ (kA'.out.keep hq4.1) hq4.1.size)
      have kB := Lib.hid (more_ (kB'.out.keep hq4.1) hq4.1.size)
      have hbw4 := Lib.hid (hbw3.out.trans (hq4.1.mono (by have := hbw3.out.size; omega)))
      clear hq4
      by_cases hE : farI l.sum = true
      · have e1 := Lib.hid hE
        clear hE
        go_wp2_with fail
        refine (cA1.out w4 kA.out hl hnA.out).mono ?_
        rintro e w5 ⟨rfl, hq5⟩
        rw [e1.out]
        have kB := Lib.hid (more_ (kB.out.keep hq5.1) hq5.1.size)
        have hbw5 := Lib.hid (hbw4.out.trans (hq5.1.mono (by have := hbw4.out.size; omega)))
        clear hq5
        go_wp2_with fail
        refine (cB1.out w5 kB.out hr hnB.out).mono ?_
        rintro e w6 ⟨rfl, hq6⟩
        have hbw6 := Lib.hid (hbw5.out.trans (hq6.1.mono (by have := hbw5.out.size; omega)))
        clear hq6
        go_wp2_with fail
        refine (works_any _).mono ?_; rintro e w7 ⟨rfl, hq7⟩
        have hbw7 := Lib.hid (hbw6.out.trans (hq7.1.mono (by have := hbw6.out.size; omega)))
        clear hq7
        go_wp2_with fail
        go_ret
        exact ⟨rfl, hbw7.out⟩
      · have e1 : Hid (farI l.sum = false) := Lib.hid (by simpa using hE)
        clear hE
        by_cases hF : farI r.sum = true
        · have e2 := Lib.hid hF
          clear hF
          go_wp2_with fail
          refine (cA1.out w4 kA.out hl hnA.out).mono ?_
          rintro e w5 ⟨rfl, hq5⟩
          rw [e1.out]
          have kB := Lib.hid (more_ (kB.out.keep hq5.1) hq5.1.size)
          have hbw5 := Lib.hid (hbw4.out.trans (hq5.1.mono (by have := hbw4.out.size; omega)))
          clear hq5
          go_wp2_with fail
          refine (cB1.out w5 kB.out hr hnB.out).mono ?_
          rintro e w6 ⟨rfl, hq6⟩
          rw [e2.out]
          have hbw6 := Lib.hid (hbw5.out.trans (hq6.1.mono (by have := hbw5.out.size; omega)))
          clear hq6
          go_wp2_with fail
          refine (works_any _).mono ?_; rintro e w7 ⟨rfl, hq7⟩
          have hbw7 := Lib.hid (hbw6.out.trans (hq7.1.mono (by have := hbw6.out.size; omega)))
          clear hq7
          go_wp2_with fail
          go_ret
          exact ⟨rfl, hbw7.out⟩
        · have e2 : Hid (farI r.sum = false) := Lib.hid (by simpa using hF)
          clear hF
          obtain ⟨s1, hs1⟩ : ∃ s1, Hid (cutI l.sum = s1 ∧ l.sum = s1 ∧ I64 s1) := ⟨l.sum, Lib.hid (near_of e1.out)⟩
          obtain ⟨s2, hs2⟩ : ∃ s2, Hid (cutI r.sum = s2 ∧ r.sum = s2 ∧ I64 s2) := ⟨r.sum, Lib.hid (near_of e2.out)⟩
          have hlast : Hid (cutI [s1, s2].sum = X ∧ farI [s1, s2].sum = G) := by
            refine Lib.hid ?_
            have : [s1, s2].sum = (l ++ r).sum := by rw [hsum2.out, hs1.out.2.1, hs2.out.2.1]; simp
            rw [this]; exact ⟨hX.out, hG.out⟩
          go_wp2_with fail
          refine (cA1.out w4 kA.out hl hnA.out).mono ?_
          rintro e w5 ⟨rfl, hq5⟩
          rw [e1.out, hs1.out.1]
          have kB := Lib.hid (more_ (kB.out.keep hq5.1) hq5.1.size)
          have hbw5 := Lib.hid (hbw4.out.trans (hq5.1.mono (by have := hbw4.out.size; omega)))
          clear hq5
          go_wp2_with fail
          refine (cB1.out w5 kB.out hr hnB.out).mono ?_
          rintro e w6 ⟨rfl, hq6⟩
          rw [e2.out, hs2.out.1]
          have hbw6 := Lib.hid (hbw5.out.trans (hq6.1.mono (by have := hbw5.out.size; omega)))
          clear hq6
          have htwo := Lib.hid (two_ints w6 s1 s2 hs1.out.2.2 hs2.out.2.2)
          have hlen2 : Hid (2 = [s1, s2].length) := Lib.hid rfl
          go_wp2_with fail
          refine (sum_any _ _ 2 [s1, s2] _ htwo.out hlen2 (by omega)).mono ?_
          rintro e w7 ⟨rfl, hq7⟩
          rw [hlast.out.1, hlast.out.2]
          have hbw7 := Lib.hid ((hbw6.out.alloc hbw6.out.size _).trans (hq7.1.mono (by have := hbw6.out.size; simp; omega)))
          clear hq7
          go_wp2_with fail
          refine (works_any _).mono ?_; rintro e w8 ⟨rfl, hq8⟩
          have hbw8 := Lib.hid (hbw7.out.trans (hq8.1.mono (by have := hbw7.out.size; omega)))
          clear hq8
          go_wp2_with fail
          go_ret
          exact ⟨rfl, hbw8.out⟩

set_option maxRecDepth 200000 in
theorem great_ (A B : Option Addr) (n m cA cB : Nat) (w : World) (hsz : ¬ n + m ≤ 300) (hn : n ≤ 17592186044416) (hm : m ≤ 17592186044416) :
    Calls Try.prog 7 #[.slice A n cA, .slice B m cB] w fun e w' => e = .returned (.bool true) ∧ Below w.heap.size w w' := by
  go_enter Try.func7, Try.ntmps7
  go_wp2_with fail
  refine (works_any _).mono ?_; rintro e w' ⟨rfl, hq⟩
  go_wp2_with fail
  go_ret
  exact ⟨rfl, hq.1⟩

theorem walk (A : Option Addr) (n cA : Nat) (l : List Int) (hl : n = l.length) (hn : n ≤ 17592186044416) (hA : A = none → n = 0 ∧ cA = 0) {w : World} (hAl : Ints w w.heap.size A l)
    (B : Option Addr) (m cB : Nat) (r : List Int) (hr : m = r.length) (hm : m ≤ 17592186044416) (hB : B = none → m = 0 ∧ cB = 0) (hBl : Ints w w.heap.size B r) (w' : World) (hw : w' = w) :
    Calls Try.prog 7 #[.slice A n cA, .slice B m cB] w' fun e w'' => e = .returned (.bool true) ∧ Below w'.heap.size w' w'' := by
  subst hw
  by_cases h : n + m ≤ 300
  · exact small_ A B n m cA cB l r _ (Lib.hid hl) (Lib.hid hr) h (Lib.hid hAl) (Lib.hid hBl) (Lib.hid hA) (Lib.hid hB)
  · exact great_ A B n m cA cB _ h hn hm

set_option maxRecDepth 100000 in
theorem lifted (os : Os) (started : os.Started) (H : Type) (enc : TypeId × Value → H) :
    ReturnsInHanded {} Try.checked os 7 .any (Rows.auOrdersSpec.pre6 enc Try.prog Try.f7 Rows.auOrdersRow.domain false) (Rows.auOrdersSpec.post enc Try.prog Try.f7 false true false false) := by
  refine returnsInHanded_of_change_sized (C := Try.checked) own started (by kernel_rfl) Try.func7
    (ChangeSpec.witness6 (enc := enc) (C := Try.checked) false ⟨#[], #[.slice none 0 0, .slice none 0 0], []⟩ 7 (by kernel_rfl) (by kernel_rfl) (by kernel_rfl) (by kernel_rfl)) ?_
  intro W base args ds gs before hval0 hW hcnd hsz0 _
  have hsz : (DataW.weightsEach Try.prog (Try.f7.params.toList ++ Rows.auOrdersSpec.plain.varTypes Try.prog) (ds ++ gs)).all (· ≤ reachBytes) = true := hsz0
  clear hsz0
  have hval : ∀ (j : Nat) t v, Try.f7.params[j]? = some t → args[j]? = some v → Value.okWide Try.prog W .any base t v := hval0
  have hW' := hW
  obtain ⟨p, q, hA0, hV, rfl, hfz, hnd⟩ := hW
  have hA : DataW.TrodAll enc Try.prog W 0 (fun _ => true) true Try.f7.params.toList args.toList ds p := hA0
  rw [Try.params7] at hA hval hsz
  obtain ⟨v0, vs0, d0, ds0, p0, q0, hargs, rfl, rfl, h0, r0⟩ := trodAll_cons hA
  obtain ⟨v1, vs1, d1, ds1, p1, q1, rfl, rfl, rfl, h1, r1⟩ := trodAll_cons r0
  obtain ⟨rfl, rfl, rfl⟩ := trodAll_nil r1
  obtain rfl : args = #[v0, v1] := by cases args; simp_all
  obtain ⟨rfl, rfl⟩ := trodVars_none hV
  obtain ⟨A0, n0, c0, z0, rfl, e0, l0, m0, N0, I0, D0⟩ := view_ints (hval 0 32 v0 rfl rfl) h0
  have b0 := ints_room hsz (j := 0) rfl rfl e0 D0
  obtain ⟨A1, n1, c1, z1, rfl, e1, l1, m1, N1, I1, D1⟩ := view_ints (hval 1 32 v1 rfl rfl) h1
  have b1 := ints_room hsz (j := 1) rfl rfl e1 D1
  refine (walk A0 n0 c0 z0 e0 b0 N0 I0 A1 n1 c1 z1 e1 b1 N1 I1 W rfl).mono fun e W' ⟨he, hg⟩ => ?_
  subst he
  exact ⟨_, rfl, law_post laidOut (by kernel_rfl) rfl Try.underlying4 rfl hW' rfl rfl rfl hg⟩

theorem over : Rows.auOrdersRow.holds Try.pinned (OpenSpec.ofChange Rows.auOrdersSpec) :=
  OpenClaim.holds_of_wide 7 Try.f7 rfl rfl rfl rfl rfl rfl rfl ⟨rfl, rfl, rfl, rfl, rfl⟩ rfl rfl rfl rfl rfl (by kernel_rfl) Try.func7 (by kernel_rfl)
    (of_decide_eq_true (by kernel_rfl)) (by unfold Func.isWrapper; first | (rw [if_pos (by decide +kernel)]; kernel_rfl) | (rw [if_neg (by decide +kernel)]; exact ⟨rfl, rfl⟩))
    (fun os started H enc _ => lifted os started H enc)

/-- The statement. -/
theorem proved : Rows.AuOrdersSaid := over
#print axioms proved
end Go.Proofs.Yteiohfgogpcmhaa.lawAuOrders
