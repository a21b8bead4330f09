/-
  How arguments of stage 4 are read: lengths, styles, units.
-/
import Derived.Test.YtnmfcbmdopmglaaView
import Derived.Test.YtnmfcbmdopmglaaStyle
import Derived.ChangeArms
import Derived.OpenShut
namespace Go.Proofs.Ytnmfcbmdopmglaa
open Go.ChangeShapes Go.WideShapes Go.RowKit Go.Deep

def U8 (z : Int) : Prop := 0 ≤ z ∧ z ≤ 255
def U16 (z : Int) : Prop := 0 ≤ z ∧ z ≤ 65535
def u16E (z : Int) : List Value := [.int .u16 z]
theorem u16E_len (z : Int) : (u16E z).length = 1 := rfl
def LenOk (l : LenV) : Prop := U8 l.k ∧ I64 l.n
/-- The numbers of a style are such as its fields' types hold. -/
def StyOk (s : Style) : Prop :=
  (U8 s.kind ∧ U8 s.float ∧ U8 s.clear ∧ U8 s.align ∧ U8 s.justify ∧ U8 s.items) ∧
  (LenOk s.w ∧ LenOk s.h ∧ LenOk s.minW ∧ LenOk s.maxW ∧ LenOk s.minH ∧ LenOk s.maxH ∧ LenOk s.basis ∧ LenOk s.m0 ∧ LenOk s.m1 ∧ LenOk s.m2 ∧ LenOk s.m3) ∧
  (I64 s.line ∧ I64 s.order ∧ I64 s.grow ∧ I64 s.shrink ∧ I64 s.b0 ∧ I64 s.b1 ∧ I64 s.b2 ∧ I64 s.b3 ∧ I64 s.p0 ∧ I64 s.p1 ∧ I64 s.p2 ∧ I64 s.p3)

section
variable {H : Type} {enc : TypeId × Value → H} {P : Program} {W : World}

/-- A slice, told of the cells that read as it. -/
theorem slice_read {α : Type} (f : α → List Value) (ok : α → Prop) (size : Nat) {t e : TypeId} (ht : P.underlying t = some (.slice e)) (hC : P.cellsOf e = size) (hf : ∀ x, (f x).length = size)
    (hread : ∀ (cs : List Value) (fuel : Nat) (x : DataW H × List MemPlace), cs.length = size → DataW.trod enc P W 0 (fun _ => true) true fuel e cs = some x → ∃ r, cs = f r ∧ ok r)
    {cs : List Value} {fuel : Nat} {y : DataW H × List MemPlace} (hfu : DataW.trod enc P W 0 (fun _ => true) true fuel t cs = some y) (hsz : 0 < size) :
    ∃ (A : Option Addr) (n c : Nat) (l : List α), cs = [.slice A n c] ∧ c ≤ maxLen ∧ Sl f W A n c l ∧ ∀ r ∈ l, ok r := by
  obtain ⟨d, p⟩ := y
  rcases open_slice ht hfu with ⟨hcs, _⟩ | ⟨a, n, c, m, n', D, Pl, hcs, _, hlc, hm, hmm, _, hi⟩
  · exact ⟨none, 0, 0, [], hcs, Nat.zero_le _, Sl.none_ W, fun r hr => by cases hr⟩
  · have hnm : n ≤ m := by rw [hmm]; split <;> omega
    have key : ∀ k, k ≤ n → ∃ l : List α, l.length = k ∧ ∀ i x, l[i]? = some x → ok x ∧ ∀ r u, (f x)[r]? = some u → W.cell? (a.add (i * size + r)) = some u := by
      intro k
      induction k with
      | zero => exact fun _ => ⟨[], rfl, fun i x hx => by simp at hx⟩
      | succ k ih =>
        intro hk
        obtain ⟨l, hl, hall⟩ := ih (by omega)
        obtain ⟨cs', hc, htr⟩ := hi k (by omega)
        rw [hC] at hc
        obtain ⟨_, hcl, hat⟩ := World.cells?_some hc
        obtain ⟨r, rfl, hr⟩ := hread cs' _ _ hcl htr
        refine ⟨l ++ [r], by simp [hl], fun i x hx => ?_⟩
        by_cases hik : i < k
        · rw [List.getElem?_append_left (by omega)] at hx
          exact hall i x hx
        · have hlt := (List.getElem?_eq_some_iff.1 hx).1
          simp [hl] at hlt
          have hik : i = k := by omega
          subst hik
          rw [List.getElem?_append_right (by omega), hl, Nat.sub_self] at hx
          simp at hx
          subst hx
          refine ⟨hr, fun q u hu => ?_⟩
          have hq := (List.getElem?_eq_some_iff.1 hu).1
          rw [hf] at hq
          rw [← Go.Deep.add_add, hat q hq, hu]
    obtain ⟨l, hl, hall⟩ := key n (Nat.le_refl _)
    refine ⟨some a, n, c, l, hcs, hm, ⟨hl.symm, hlc, (fun h => by cases h), fun hpos => ⟨a, rfl, ?_, ?_⟩⟩, fun r hr => ?_⟩
    · obtain ⟨x, hx⟩ : ∃ x, l[0]? = some x := ⟨l[0], List.getElem?_eq_getElem hpos⟩
      have h0 := (hall 0 x hx).2 0 _ (List.getElem?_eq_getElem (by rw [hf]; exact hsz))
      have := World.block_lt_of_cell? W _ h0
      rwa [add_block] at this
    · intro j u hj
      obtain ⟨i, r, x, rfl, hx, hu⟩ := flat_inv hf l j u hj
      exact (hall i x hx).2 r u hu
    · obtain ⟨i, hi'⟩ := List.getElem?_of_mem hr
      exact (hall i r hi').1
end

section
variable {H : Type} {enc : TypeId × Value → H} {W : World} {v : Value} {d : DataW H} {p : List MemPlace} {base : Nat}
theorem c_i64 : Try.prog.cellsOf 2 = 1 := by kernel_rfl
theorem c_int : Try.prog.cellsOf 3 = 1 := by kernel_rfl
theorem c_bool : Try.prog.cellsOf 4 = 1 := by kernel_rfl
theorem c_u8 : Try.prog.cellsOf 5 = 1 := by kernel_rfl
theorem c_u16 : Try.prog.cellsOf 26 = 1 := by kernel_rfl
theorem c_len : Try.prog.cellsOf 33 = 2 := by kernel_rfl
theorem c_len4 : Try.prog.cellsOf 34 = 8 := by kernel_rfl
theorem c_int4 : Try.prog.cellsOf 35 = 4 := by kernel_rfl
theorem c_units : Try.prog.cellsOf 36 = 1 := by kernel_rfl
theorem c_sty : Try.prog.cellsOf 38 = 43 := by kernel_rfl

theorem rd_u8 {n : Nat} {c : Value} {y : DataW H × List MemPlace} (h : DataW.trod enc Try.prog W 0 (fun _ => true) true n 5 [c] = some y) : ∃ z, c = .int .u8 z ∧ U8 z := by
  obtain ⟨z0, e0, _, hw⟩ := DataW.trod_int Try.underlying5 h
  simp only [List.cons.injEq, and_true] at e0
  refine ⟨z0, e0, ?_⟩
  simp [Lit.wf, IntKind.min, IntKind.max, IntKind.signed, IntKind.bits] at hw
  exact ⟨by omega, by omega⟩
theorem rd_i64 {n : Nat} {c : Value} {y : DataW H × List MemPlace} (h : DataW.trod enc Try.prog W 0 (fun _ => true) true n 2 [c] = some y) : ∃ z, c = .int .i64 z ∧ I64 z := by
  obtain ⟨z0, e0, _, hw⟩ := DataW.trod_int Try.underlying2 h
  simp only [List.cons.injEq, and_true] at e0
  exact ⟨z0, e0, bounds_i64 hw⟩
theorem rd_int {n : Nat} {c : Value} {y : DataW H × List MemPlace} (h : DataW.trod enc Try.prog W 0 (fun _ => true) true n 3 [c] = some y) : ∃ z, c = .int .i64 z ∧ I64 z := by
  obtain ⟨z0, e0, _, hw⟩ := DataW.trod_int Try.underlying3 h
  simp only [List.cons.injEq, and_true] at e0
  exact ⟨z0, e0, bounds_i64 hw⟩
theorem rd_bool {n : Nat} {c : Value} {y : DataW H × List MemPlace} (h : DataW.trod enc Try.prog W 0 (fun _ => true) true n 4 [c] = some y) : ∃ z, c = .bool z := by
  obtain ⟨z0, e0, _⟩ := DataW.trod_bool Try.underlying4 h
  simp only [List.cons.injEq, and_true] at e0
  exact ⟨z0, e0⟩
theorem rd_len {n : Nat} {c0 c1 : Value} {y : DataW H × List MemPlace} (h : DataW.trod enc Try.prog W 0 (fun _ => true) true n 33 [c0, c1] = some y) : ∃ l : LenV, c0 = .int .u8 l.k ∧ c1 = .int .i64 l.n ∧ LenOk l := by
  obtain ⟨y0, y1, m, _, _, h0, h1⟩ := trod_struct2 Try.underlying33 h
  simp [c_u8, c_i64] at h0 h1
  obtain ⟨z0, e0, o0⟩ := rd_u8 h0
  obtain ⟨z1, e1, o1⟩ := rd_i64 h1
  exact ⟨⟨z0, z1⟩, e0, e1, o0, o1⟩
theorem rd_i4 {n : Nat} {c0 c1 c2 c3 : Value} {y : DataW H × List MemPlace} (h : DataW.trod enc Try.prog W 0 (fun _ => true) true n 35 [c0, c1, c2, c3] = some y) :
    ∃ z0 z1 z2 z3, c0 = .int .i64 z0 ∧ c1 = .int .i64 z1 ∧ c2 = .int .i64 z2 ∧ c3 = .int .i64 z3 ∧ I64 z0 ∧ I64 z1 ∧ I64 z2 ∧ I64 z3 := by
  obtain ⟨xs, m, _, _, _, hlen, hi⟩ := DataW.trod_array Try.underlying35 h
  match xs, hlen with
  | [y0, y1, y2, y3], _ =>
    have h0 := hi 0 (by omega)
    have h1 := hi 1 (by omega)
    have h2 := hi 2 (by omega)
    have h3 := hi 3 (by omega)
    simp [c_i64] at h0 h1 h2 h3
    obtain ⟨z0, e0, o0⟩ := rd_i64 h0
    obtain ⟨z1, e1, o1⟩ := rd_i64 h1
    obtain ⟨z2, e2, o2⟩ := rd_i64 h2
    obtain ⟨z3, e3, o3⟩ := rd_i64 h3
    exact ⟨z0, z1, z2, z3, e0, e1, e2, e3, o0, o1, o2, o3⟩
theorem rd_l4 {n : Nat} {c0 c1 c2 c3 c4 c5 c6 c7 : Value} {y : DataW H × List MemPlace} (h : DataW.trod enc Try.prog W 0 (fun _ => true) true n 34 [c0, c1, c2, c3, c4, c5, c6, c7] = some y) :
    ∃ l0 l1 l2 l3 : LenV, (c0 = .int .u8 l0.k ∧ c1 = .int .i64 l0.n ∧ c2 = .int .u8 l1.k ∧ c3 = .int .i64 l1.n ∧ c4 = .int .u8 l2.k ∧ c5 = .int .i64 l2.n ∧ c6 = .int .u8 l3.k ∧ c7 = .int .i64 l3.n) ∧ LenOk l0 ∧ LenOk l1 ∧ LenOk l2 ∧ LenOk l3 := by
  obtain ⟨xs, m, _, _, _, hlen, hi⟩ := DataW.trod_array Try.underlying34 h
  match xs, hlen with
  | [y0, y1, y2, y3], _ =>
    have h0 := hi 0 (by omega)
    have h1 := hi 1 (by omega)
    have h2 := hi 2 (by omega)
    have h3 := hi 3 (by omega)
    simp [c_len] at h0 h1 h2 h3
    obtain ⟨z0, e0, f0, o0⟩ := rd_len h0
    obtain ⟨z1, e1, f1, o1⟩ := rd_len h1
    obtain ⟨z2, e2, f2, o2⟩ := rd_len h2
    obtain ⟨z3, e3, f3, o3⟩ := rd_len h3
    exact ⟨z0, z1, z2, z3, ⟨e0, f0, e1, f1, e2, f2, e3, f3⟩, o0, o1, o2, o3⟩
theorem read_u16 (cs : List Value) (fuel : Nat) (x : DataW H × List MemPlace) (hl : cs.length = 1) (h : DataW.trod enc Try.prog W 0 (fun _ => true) true fuel 26 cs = some x) : ∃ r, cs = u16E r ∧ U16 r := by
  match cs, hl with
  | [c0], _ =>
    obtain ⟨z0, e0, _, hw⟩ := DataW.trod_int Try.underlying26 h
    simp only [List.cons.injEq, and_true] at e0
    subst e0
    refine ⟨z0, rfl, ?_⟩
    simp [Lit.wf, IntKind.min, IntKind.max, IntKind.signed, IntKind.bits] at hw
    exact ⟨by omega, by omega⟩
set_option maxRecDepth 100000 in
theorem view_u16s (hok : Value.okWide Try.prog W .any base 36 v) (h : DataW.Trod enc Try.prog W 0 (fun _ => true) true 36 v d p) :
    ∃ (A : Option Addr) (n c : Nat) (l : List Int), v = .slice A n c ∧ c ≤ maxLen ∧ Sl u16E W A n c l ∧ ∀ r ∈ l, U16 r :=
  view_slice u16E U16 1 Try.underlying36 c_u16 u16E_len read_u16 hok h (by omega)

set_option maxRecDepth 100000 in
theorem view_len (hok : Value.okWide Try.prog W .any base 33 v) (h : DataW.Trod enc Try.prog W 0 (fun _ => true) true 33 v d p) : ∃ r : LenV, v = .agg #[.int .u8 r.k, .int .i64 r.n] ∧ LenOk r := by
  obtain ⟨cs, rfl, hsz⟩ := okWide_struct Try.underlying33 hok
  obtain ⟨l⟩ := cs
  obtain ⟨fuel, hf⟩ := h
  have hl : l.length = 2 := by simpa [c_len] using hsz
  match l, hl with
  | [c0, c1], _ =>
    obtain ⟨r, e0, e1, ho⟩ := rd_len (by simpa [Value.cells] using hf)
    exact ⟨r, by rw [e0, e1], ho⟩

theorem uncons {α : Type} {l : List α} {n : Nat} (h : l.length = n + 1) : ∃ a t, l = a :: t ∧ t.length = n := by
  cases l with
  | nil => simp at h
  | cons a t => exact ⟨a, t, rfl, by simpa using h⟩
set_option maxRecDepth 100000 in
set_option maxHeartbeats 1600000 in
theorem read_sty (cs : List Value) (fuel : Nat) (x : DataW H × List MemPlace) (hl : cs.length = 43) (h : DataW.trod enc Try.prog W 0 (fun _ => true) true fuel 38 cs = some x) :
    ∃ (s : Style) (l : List Int), cs = styE s ∧ StyOk s ∧ Sl u16E W s.ua s.un s.uc l ∧ (∀ r ∈ l, U16 r) ∧ s.uc ≤ maxLen := by
  obtain ⟨xs, m, _, _, _, hlen, hf⟩ := DataW.trod_struct Try.underlying38 h
  have hlen' : xs.length = 23 := hlen
  clear hlen h
  obtain ⟨c0, t0, rfl, h0⟩ := uncons hl
  obtain ⟨c1, t1, rfl, h1⟩ := uncons h0
  obtain ⟨c2, t2, rfl, h2⟩ := uncons h1
  obtain ⟨c3, t3, rfl, h3⟩ := uncons h2
  obtain ⟨c4, t4, rfl, h4⟩ := uncons h3
  obtain ⟨c5, t5, rfl, h5⟩ := uncons h4
  obtain ⟨c6, t6, rfl, h6⟩ := uncons h5
  obtain ⟨c7, t7, rfl, h7⟩ := uncons h6
  obtain ⟨c8, t8, rfl, h8⟩ := uncons h7
  obtain ⟨c9, t9, rfl, h9⟩ := uncons h8
  obtain ⟨c10, t10, rfl, h10⟩ := uncons h9
  obtain ⟨c11, t11, rfl, h11⟩ := uncons h10
  obtain ⟨c12, t12, rfl, h12⟩ := uncons h11
  obtain ⟨c13, t13, rfl, h13⟩ := uncons h12
  obtain ⟨c14, t14, rfl, h14⟩ := uncons h13
  obtain ⟨c15, t15, rfl, h15⟩ := uncons h14
  obtain ⟨c16, t16, rfl, h16⟩ := uncons h15
  obtain ⟨c17, t17, rfl, h17⟩ := uncons h16
  obtain ⟨c18, t18, rfl, h18⟩ := uncons h17
  obtain ⟨c19, t19, rfl, h19⟩ := uncons h18
  obtain ⟨c20, t20, rfl, h20⟩ := uncons h19
  obtain ⟨c21, t21, rfl, h21⟩ := uncons h20
  obtain ⟨c22, t22, rfl, h22⟩ := uncons h21
  obtain ⟨c23, t23, rfl, h23⟩ := uncons h22
  obtain ⟨c24, t24, rfl, h24⟩ := uncons h23
  obtain ⟨c25, t25, rfl, h25⟩ := uncons h24
  obtain ⟨c26, t26, rfl, h26⟩ := uncons h25
  obtain ⟨c27, t27, rfl, h27⟩ := uncons h26
  obtain ⟨c28, t28, rfl, h28⟩ := uncons h27
  obtain ⟨c29, t29, rfl, h29⟩ := uncons h28
  obtain ⟨c30, t30, rfl, h30⟩ := uncons h29
  obtain ⟨c31, t31, rfl, h31⟩ := uncons h30
  obtain ⟨c32, t32, rfl, h32⟩ := uncons h31
  obtain ⟨c33, t33, rfl, h33⟩ := uncons h32
  obtain ⟨c34, t34, rfl, h34⟩ := uncons h33
  obtain ⟨c35, t35, rfl, h35⟩ := uncons h34
  obtain ⟨c36, t36, rfl, h36⟩ := uncons h35
  obtain ⟨c37, t37, rfl, h37⟩ := uncons h36
  obtain ⟨c38, t38, rfl, h38⟩ := uncons h37
  obtain ⟨c39, t39, rfl, h39⟩ := uncons h38
  obtain ⟨c40, t40, rfl, h40⟩ := uncons h39
  obtain ⟨c41, t41, rfl, h41⟩ := uncons h40
  obtain ⟨c42, t42, rfl, h42⟩ := uncons h41
  obtain rfl := List.eq_nil_of_length_eq_zero h42
  obtain ⟨y0, u0, rfl, g0⟩ := uncons hlen'
  obtain ⟨y1, u1, rfl, g1⟩ := uncons g0
  obtain ⟨y2, u2, rfl, g2⟩ := uncons g1
  obtain ⟨y3, u3, rfl, g3⟩ := uncons g2
  obtain ⟨y4, u4, rfl, g4⟩ := uncons g3
  obtain ⟨y5, u5, rfl, g5⟩ := uncons g4
  obtain ⟨y6, u6, rfl, g6⟩ := uncons g5
  obtain ⟨y7, u7, rfl, g7⟩ := uncons g6
  obtain ⟨y8, u8, rfl, g8⟩ := uncons g7
  obtain ⟨y9, u9, rfl, g9⟩ := uncons g8
  obtain ⟨y10, u10, rfl, g10⟩ := uncons g9
  obtain ⟨y11, u11, rfl, g11⟩ := uncons g10
  obtain ⟨y12, u12, rfl, g12⟩ := uncons g11
  obtain ⟨y13, u13, rfl, g13⟩ := uncons g12
  obtain ⟨y14, u14, rfl, g14⟩ := uncons g13
  obtain ⟨y15, u15, rfl, g15⟩ := uncons g14
  obtain ⟨y16, u16, rfl, g16⟩ := uncons g15
  obtain ⟨y17, u17, rfl, g17⟩ := uncons g16
  obtain ⟨y18, u18, rfl, g18⟩ := uncons g17
  obtain ⟨y19, u19, rfl, g19⟩ := uncons g18
  obtain ⟨y20, u20, rfl, g20⟩ := uncons g19
  obtain ⟨y21, u21, rfl, g21⟩ := uncons g20
  obtain ⟨y22, u22, rfl, g22⟩ := uncons g21
  obtain rfl := List.eq_nil_of_length_eq_zero g22
  clear h0 h1 h2 h3 h4 h5 h6 h7 h8 h9 h10 h11 h12 h13 h14 h15 h16 h17 h18 h19 h20 h21 h22 h23 h24 h25 h26 h27 h28 h29 h30 h31 h32 h33 h34 h35 h36 h37 h38 h39 h40 h41 h42 g0 g1 g2 g3 g4 g5 g6 g7 g8 g9 g10 g11 g12 g13 g14 g15 g16 g17 g18 g19 g20 g21 g22
  have f0 := hf 0 _ rfl
  simp [c_u8] at f0
  have f1 := hf 1 _ rfl
  simp [c_bool] at f1
  have f2 := hf 2 _ rfl
  simp [c_u8] at f2
  have f3 := hf 3 _ rfl
  simp [c_u8] at f3
  have f4 := hf 4 _ rfl
  simp [c_len] at f4
  have f5 := hf 5 _ rfl
  simp [c_len] at f5
  have f6 := hf 6 _ rfl
  simp [c_len] at f6
  have f7 := hf 7 _ rfl
  simp [c_len] at f7
  have f8 := hf 8 _ rfl
  simp [c_len] at f8
  have f9 := hf 9 _ rfl
  simp [c_len] at f9
  have f10 := hf 10 _ rfl
  simp [c_len4] at f10
  have f11 := hf 11 _ rfl
  simp [c_int4] at f11
  have f12 := hf 12 _ rfl
  simp [c_int4] at f12
  have f13 := hf 13 _ rfl
  simp [c_u8] at f13
  have f14 := hf 14 _ rfl
  simp [c_i64] at f14
  have f15 := hf 15 _ rfl
  simp [c_bool] at f15
  have f16 := hf 16 _ rfl
  simp [c_u8] at f16
  have f17 := hf 17 _ rfl
  simp [c_u8] at f17
  have f18 := hf 18 _ rfl
  simp [c_int] at f18
  have f19 := hf 19 _ rfl
  simp [c_i64] at f19
  have f20 := hf 20 _ rfl
  simp [c_i64] at f20
  have f21 := hf 21 _ rfl
  simp [c_len] at f21
  have f22 := hf 22 _ rfl
  simp [c_units] at f22
  clear hf
  obtain ⟨z0, rfl, o0⟩ := rd_u8 f0
  obtain ⟨z1, rfl⟩ := rd_bool f1
  obtain ⟨z2, rfl, o2⟩ := rd_u8 f2
  obtain ⟨z3, rfl, o3⟩ := rd_u8 f3
  obtain ⟨z4, rfl, rfl, o4⟩ := rd_len f4
  obtain ⟨z6, rfl, rfl, o6⟩ := rd_len f5
  obtain ⟨z8, rfl, rfl, o8⟩ := rd_len f6
  obtain ⟨z10, rfl, rfl, o10⟩ := rd_len f7
  obtain ⟨z12, rfl, rfl, o12⟩ := rd_len f8
  obtain ⟨z14, rfl, rfl, o14⟩ := rd_len f9
  obtain ⟨z16, z18, z20, z22, ⟨rfl, rfl, rfl, rfl, rfl, rfl, rfl, rfl⟩, o16, o18, o20, o22⟩ := rd_l4 f10
  obtain ⟨z24, z25, z26, z27, rfl, rfl, rfl, rfl, o24, o25, o26, o27⟩ := rd_i4 f11
  obtain ⟨z28, z29, z30, z31, rfl, rfl, rfl, rfl, o28, o29, o30, o31⟩ := rd_i4 f12
  obtain ⟨z32, rfl, o32⟩ := rd_u8 f13
  obtain ⟨z33, rfl, o33⟩ := rd_i64 f14
  obtain ⟨z34, rfl⟩ := rd_bool f15
  obtain ⟨z35, rfl, o35⟩ := rd_u8 f16
  obtain ⟨z36, rfl, o36⟩ := rd_u8 f17
  obtain ⟨z37, rfl, o37⟩ := rd_int f18
  obtain ⟨z38, rfl, o38⟩ := rd_i64 f19
  obtain ⟨z39, rfl, o39⟩ := rd_i64 f20
  obtain ⟨z40, rfl, rfl, o40⟩ := rd_len f21
  obtain ⟨A, n, c, l, e42, hc, hS, hU⟩ := slice_read u16E U16 1 Try.underlying36 c_u16 u16E_len read_u16 f22 (by omega)
  simp only [List.cons.injEq, and_true] at e42
  subst e42
  exact ⟨⟨z0, z1, z2, z3, z4, z6, z8, z10, z12, z14, z16, z18, z20, z22, z24, z25, z26, z27, z28, z29, z30, z31, z32, z33, z34, z35, z36, z37, z38, z39, z40, A, n, c⟩, l, rfl, ⟨⟨o0, o2, o3, o32, o35, o36⟩, ⟨o4, o6, o8, o10, o12, o14, o40, o16, o18, o20, o22⟩, o33, o37, o38, o39, o24, o25, o26, o27, o28, o29, o30, o31⟩, hS, hU, hc⟩

set_option maxRecDepth 100000 in
theorem view_sty (hok : Value.okWide Try.prog W .any base 38 v) (h : DataW.Trod enc Try.prog W 0 (fun _ => true) true 38 v d p) :
    ∃ s : Style, v = styV s ∧ StyOk s ∧ s.uc ≤ maxLen ∧ ∃ l, Sl u16E W s.ua s.un s.uc l ∧ ∀ r ∈ l, U16 r := by
  obtain ⟨cs, rfl, hsz⟩ := okWide_struct Try.underlying38 hok
  obtain ⟨l⟩ := cs
  obtain ⟨fuel, hf⟩ := h
  obtain ⟨s, l', e, ho, hS, hU, hc⟩ := read_sty l fuel _ (by simpa [c_sty] using hsz) (by simpa [Value.cells] using hf)
  exact ⟨s, by rw [e]; rfl, ho, hc, l', hS, hU⟩
end
end Go.Proofs.Ytnmfcbmdopmglaa
