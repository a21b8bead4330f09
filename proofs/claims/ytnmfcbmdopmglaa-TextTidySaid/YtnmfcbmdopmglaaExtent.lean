/-
  Contract of package text: Extent.
-/
import Derived.Test.YtnmfcbmdopmglaaRows6
import Derived.Test.YtnmfcbmdopmglaaWords
import Derived.Deep.DeepCutAuto
import Derived.Sort.CutIn
import Derived.OwnWalk
namespace Go.Proofs.Ytnmfcbmdopmglaa
open Go.RowKit Go.Shelf
set_option linter.unusedVariables false
attribute [local go_sem] Oper.semAt_some

/-- The greatest width of words; 0 of none. -/
def lst : List Wrd → Int
  | [] => 0
  | x :: xs => xs.foldl (fun m y => if m < y.w then y.w else m) x.w
theorem lst_first {l : List Wrd} {x : Wrd} (h : l[0]? = some x) : lst (l.take (0 + 1)) = x.w := by
  cases l with
  | nil => cases h
  | cons y l => simp at h; subst h; rfl
theorem lst_next {l : List Wrd} {k : Nat} {x : Wrd} (hk : 0 < k) (h : l[k]? = some x) : lst (l.take (k + 1)) = if lst (l.take k) < x.w then x.w else lst (l.take k) := by
  obtain ⟨hl, rfl⟩ := List.getElem?_eq_some_iff.1 h
  cases l with
  | nil => simp at hl
  | cons y l =>
    obtain ⟨j, rfl⟩ : ∃ j, k = j + 1 := ⟨k - 1, by omega⟩
    have hj : j < l.length := by simpa using hl
    simp only [List.take_succ_cons, lst, List.getElem_cons_succ]
    rw [List.take_succ_eq_append_getElem hj, List.foldl_append]
    rfl
theorem lst_i64 {l : List Wrd} (h : ∀ x ∈ l, WrdOk x) : I64 (lst l) := by
  cases l with
  | nil => simp [lst, I64]
  | cons x l =>
    have key : ∀ (l : List Wrd) (m : Int), I64 m → (∀ x ∈ l, WrdOk x) → I64 (l.foldl (fun m y => if m < y.w then y.w else m) m) := by
      intro l
      induction l with
      | nil => intro m hm _; exact hm
      | cons y l ih =>
        intro m hm hl
        simp only [List.foldl_cons]
        refine ih _ ?_ (fun x hx => hl x (List.mem_cons_of_mem _ hx))
        split
        · exact (hl y (List.mem_cons_self ..)).2.2.1
        · exact hm
    exact key l x.w (h x (List.mem_cons_self ..)).2.2.1 (fun y hy => h y (List.mem_cons_of_mem _ hy))
def subs (l : List Wrd) (r : Rg) : List Wrd := (l.take r.b).drop r.a
/-- How wide the widest row is; whether a row is beyond. -/
def grt (l : List Wrd) (rs : List Rg) : Int := rs.foldl (fun m r => max m (cutI (rowS (subs l r)))) 0
def farE (l : List Wrd) (rs : List Rg) : Bool := rs.any fun r => farI (rowS (subs l r))
theorem grt_snoc (l : List Wrd) (rs : List Rg) (r : Rg) : grt l (rs ++ [r]) = max (grt l rs) (cutI (rowS (subs l r))) := by simp [grt]
theorem farE_snoc (l : List Wrd) (rs : List Rg) (r : Rg) : farE l (rs ++ [r]) = (farE l rs || farI (rowS (subs l r))) := by simp [farE]

/-- What the loops of Extent keep. -/
structure EI0 (w0 : World) (x : Int) (b : Bool) (W : World) : Prop where
  b3 : Box W w0.heap.size [.int .i64 x]
  b4 : Box W (w0.heap.size + 1) [.bool b]
  hb : Below w0.heap.size w0 W
structure EI (w0 : World) (n c : Nat) (R : Option Addr) (Bs : Nat) (ws : List Wrd) (rs : List Rg) (W : World) : Prop where
  i0 : EI0 w0 (grt ws rs) (farE ws rs) W
  b8 : Box W Bs [.slice R n c]
  ge : w0.heap.size + 2 ≤ Bs
section
variable {w0 W W' : World} {n c Bs : Nat} {R : Option Addr} {ws : List Wrd} {rs : List Rg} {x : Int} {b : Bool}
theorem EI0.below (h : EI0 w0 x b W) (hb : Below W.heap.size W W') : EI0 w0 x b W' := ⟨h.b3.below hb, h.b4.below hb, h.hb.trans (hb.mono h.hb.size)⟩
theorem EI0.own (h : EI0 w0 x b W) {row : Option Nat} (hg : W.grownBy W' row) (hr : ∀ r, row = some r → w0.heap.size ≤ r ∧ ∃ o : Obj, W.heap[r]? = some o ∧ o.isCells = false) : EI0 w0 x b W' := by
  have hr2 := fun r e => (hr r e).2
  exact ⟨h.b3.own hg hr2, h.b4.own hg hr2, h.hb.grown hg h.hb.size (fun j hj => (hr j hj).1)⟩
theorem EI.below (h : EI w0 n c R Bs ws rs W) (hb : Below W.heap.size W W') : EI w0 n c R Bs ws rs W' := ⟨h.i0.below hb, h.b8.below hb, h.ge⟩
theorem EI.own (h : EI w0 n c R Bs ws rs W) {row : Option Nat} (hg : W.grownBy W' row) (hr : ∀ r, row = some r → w0.heap.size ≤ r ∧ ∃ o : Obj, W.heap[r]? = some o ∧ o.isCells = false) : EI w0 n c R Bs ws rs W' := ⟨h.i0.own hg hr, h.b8.own hg (fun r e => (hr r e).2), h.ge⟩
theorem EI0.cells (h : EI0 w0 x b W) : W.cell? ⟨w0.heap.size, 0, none⟩ = some (.int .i64 x) ∧ W.cell? ⟨w0.heap.size + 1, 0, none⟩ = some (.bool b) ∧ W.frozen? ⟨w0.heap.size, 0, none⟩ = false ∧ W.frozen? ⟨w0.heap.size + 1, 0, none⟩ = false :=
  ⟨h.b3.cell 0 _ rfl, h.b4.cell 0 _ rfl, h.b3.free 0 (by simp), h.b4.free 0 (by simp)⟩
theorem EI0.start (w : World) (t1 t2 : TypeId) : EI0 w 0 false ((w.alloc (.cells #[.int .i64 0] t1)).alloc (.cells #[.bool false] t2)) := by
  have h := Box.new (w.alloc (.cells #[.int .i64 0] t1)) [.bool false] t2
  rw [World.size_alloc] at h
  exact ⟨(Box.new w [.int .i64 0] t1).alloc _, h, ((Below.refl _ _).alloc (Nat.le_refl _) _).alloc (by simp) _⟩
/-- A row's width taken in. -/
theorem EI.step {r : Rg} {x' : Int} {b' : Bool} (h : EI w0 n c R Bs ws rs W) (hx : x' = max (grt ws rs) (cutI (rowS (subs ws r)))) (hb' : b' = (farE ws rs || farI (rowS (subs ws r)))) :
    EI w0 n c R Bs ws (rs ++ [r]) ((W.setCell ⟨w0.heap.size, 0, none⟩ (.int .i64 x')).setCell ⟨w0.heap.size + 1, 0, none⟩ (.bool b')) ∧ Keep w0.heap.size W ((W.setCell ⟨w0.heap.size, 0, none⟩ (.int .i64 x')).setCell ⟨w0.heap.size + 1, 0, none⟩ (.bool b')) := by
  have hk := (Keep.set (g := w0.heap.size) W w0.heap.size 0 (.int .i64 x') (Nat.le_refl _)).trans (Keep.set (g := w0.heap.size) _ (w0.heap.size + 1) 0 (.bool b') (by omega))
  refine ⟨⟨⟨?_, ?_, h.i0.hb.trans hk.b⟩, (h.b8.off (by have := h.ge; omega) 0 _).off (by have := h.ge; omega) 0 _, h.ge⟩, hk⟩
  · rw [grt_snoc, ← hx]; exact (h.i0.b3.set 0 (.int .i64 x') (by simp)).off (by omega) 0 _
  · rw [farE_snoc, ← hb']; exact (h.i0.b4.off (by omega) 0 _).set 0 (.bool b') (by simp)
theorem EI.kp {qs : List Rg} (h : EI w0 n c R Bs ws rs W) (h' : EI w0 n c R Bs ws qs W') (hk : Keep w0.heap.size W W') : KpB w0.heap.size Bs W W' := ⟨hk.b, (h'.b8.cell 0 _ rfl).trans (h.b8.cell 0 _ rfl).symm⟩
end

theorem EI.close {w0 W w2 : World} {n c Bs B0 : Nat} {R : Option Addr} {ws : List Wrd} {pre : List (RgN n)} {y : RgN n} {r : Rg} {x' : Int} {b' : Bool} (h : EI w0 n c R Bs ws (rgs pre) W) (hb : Below W.heap.size W w2) (hy : rgs (pre ++ [y]) = rgs pre ++ [r])
    (hx : x' = max (grt ws (rgs pre)) (cutI (rowS (subs ws r)))) (hb' : b' = (farE ws (rgs pre) || farI (rowS (subs ws r)))) :
    KeepsFrom B0 W ((w2.setCell ⟨w0.heap.size, 0, none⟩ (.int .i64 x')).setCell ⟨w0.heap.size + 1, 0, none⟩ (.bool b')) ∧ KpB w0.heap.size Bs W ((w2.setCell ⟨w0.heap.size, 0, none⟩ (.int .i64 x')).setCell ⟨w0.heap.size + 1, 0, none⟩ (.bool b')) ∧
      EI w0 n c R Bs ws (rgs (pre ++ [y])) ((w2.setCell ⟨w0.heap.size, 0, none⟩ (.int .i64 x')).setCell ⟨w0.heap.size + 1, 0, none⟩ (.bool b')) := by
  obtain ⟨h1, h2⟩ := (h.below hb).step hx hb'
  have hk := (Keep.below hb h.i0.hb.size).trans h2
  refine ⟨hk.o.from _, h.kp h1 hk, by rw [hy]; exact h1⟩

set_option maxRecDepth 100000 in
theorem rows_h (R : Option Addr) (n c : Nat) (w : World) :
    Calls Try.prog 46 #[.slice R n c] w fun e w' => e = .returned (.func (.func 59) #[] #[.pointer (some ⟨w.heap.size, 0, none⟩)]) ∧ w' = w.alloc (.cells #[.slice R n c] 48) := by
  go_enter Try.func46, Try.ntmps46
  go_wp2_with fail
  go_ret
  exact ⟨rfl, rfl⟩
theorem rows_stops (m Bs n c : Nat) (hm : 1 ≤ m) (R : Option Addr) (ws : List Wrd) (w0 w : World) (hR : Hid (Sl wrdE w0 R n c ws)) (hn : n ≤ 1000000) (hb : Below w0.heap.size w0 w) (hB : Bs < w.heap.size) (hc : w.cell? ⟨Bs, 0, none⟩ = some (.slice R n c)) :
    SeqStopsK Fence.wide m Try.prog 59 #[.pointer (some ⟨Bs, 0, none⟩)] (fun r : RgN n => #[rgV R c r.1]) (KpB w0.heap.size Bs) (fun ys => RWhl ws (rgs ys)) (fun _ => True) n w :=
  fun l J Jx W hW hJ _ hY h0 => rows1_in m l Bs n c hm R ws w0 hR hn J Jx (Lib.hid hY) W (Lib.hid hJ) (Lib.hid (hb.trans (hW.mono hb.size))) ((hW.cell (p := ⟨Bs, 0, none⟩) hB).trans hc) (Lib.hid h0)

set_option maxRecDepth 100000 in
set_option maxHeartbeats 4000000 in
theorem extent_h (R : Option Addr) (n c : Nat) (ws : List Wrd) (w : World) (hR : Hid (Sl wrdE w R n c ws)) (hw : Hid (∀ x ∈ ws, WrdOk x)) (hn : n ≤ 400000) (rs : List Rg) (hrs : Hid (RWhl ws rs)) :
    Calls Try.prog 25 #[.slice R n c] w fun e w' => e = .returned (.tuple #[.int .i64 (lst ws), .int .i64 (grt ws rs), .bool (farE ws rs)]) ∧ Below w.heap.size w w' := by
  refine (callsIn_wide (n := 5)).1 ?_
  refine callsIn_of_wp_marks Try.func25 rfl trivial ?_ rfl
  simp only [Try.ntmps25, List.size_toArray, List.length_cons, List.length_nil, Nat.reduceAdd, Nat.reduceSub, Array.replicate_succ, Array.replicate_zero, List.push_toArray, List.append_toArray, List.nil_append, List.cons_append]
  refine wpIn_wide.2 ?_
  have hst := EI0.start w 2 4
  replace hst := Lib.hid hst
  go_wp2_with fail
  generalize hW : World.alloc _ (Obj.cells #[Value.bool false] 4) = V at *
  clear hW
  go_loopw [2, 12] (fun m i wr => ∃ k : Nat, k ≤ n ∧ i = .int .i64 k ∧ m = .int .i64 (lst (ws.take k)) ∧ Hid (EI0 w 0 false wr)) (fun _ i _ => n - (intOf i).toNat)
  case atStart => exact ⟨0, Nat.zero_le _, rfl, rfl, hst⟩
  case round =>
    clear hst
    obtain ⟨k, hk, rfl, rfl, hE⟩ := hrel
    by_cases hlt : k < n
    · have i1 : (0 : Int) ≤ (k : Int) := by omega
      have i2 : (k : Int) < (n : Int) := by omega
      obtain ⟨x, hx⟩ : ∃ x, ws[k]? = some x := ⟨ws[k]'(by rw [← hR.out.len]; exact hlt), List.getElem?_eq_getElem _⟩
      obtain ⟨a0, rfl, hab, c0, c1, c2, c3, c4⟩ := (hR.out.at_.keep hE.out.hb).wrd hx
      have hE2 := fun t => Lib.hid (hE.out.below ((Below.refl _ wr).alloc (Nat.le_refl _) (.cells #[.int .i64 x.s, .int .i64 x.t, .int .i64 x.w, .int .i64 x.g, .int .i64 x.e] t)))
      replace hE2 := Lib.hid hE2
      by_cases hk0 : k = 0
      · have hk1 : ((k : Int) == 0) = true := by simpa using hk0
        have hl : Hid (lst (ws.take (k + 1)) = x.w) := Lib.hid (by subst hk0; exact lst_first hx)
        generalize lst (ws.take k) = m at *
        replace hk0 := Lib.hid hk0
        replace hx := Lib.hid hx
        go_wp2_with fail
        go_roundw
        case rel => exact ⟨k + 1, by omega, by go_num, by rw [hl.out], hE2.out _⟩
        case measure => simp [intOf]; omega
      · have hk1 : ((k : Int) == 0) = false := by simpa using hk0
        have hl := Lib.hid (lst_next (by omega) hx)
        generalize lst (ws.take k) = m at *
        replace hk0 := Lib.hid hk0
        replace hx := Lib.hid hx
        by_cases hm : m < x.w
        · have hl2 := Lib.hid (hl.out.trans (if_pos hm))
          go_wp2_with fail
          go_roundw
          case rel => exact ⟨k + 1, by omega, by go_num, by rw [hl2.out], hE2.out _⟩
          case measure => simp [intOf]; omega
        · have hl2 := Lib.hid (hl.out.trans (if_neg hm))
          go_wp2_with fail
          go_roundw
          case rel => exact ⟨k + 1, by omega, by go_num, by rw [hl2.out], hE2.out _⟩
          case measure => simp [intOf]; omega
    · obtain rfl : n = k := by omega
      have hl : Hid (lst (ws.take n) = lst ws) := Lib.hid (by rw [List.take_of_length_le (by rw [← hR.out.len]; omega)])
      rw [hl.out]
      go_wp2_with (go_at_call 46; (with_reducible refine (rows_h _ _ _ _).mono ?_); rintro e w1 ⟨rfl, rfl⟩)
      have hst : EI w n c R wr.heap.size ws [] (wr.alloc (.cells #[.slice R n c] 48)) := ⟨hE.out.below ((Below.refl _ _).alloc (Nat.le_refl _) _), Box.new wr [_] _, hE.out.b4.lt⟩
      generalize hW0 : World.alloc wr _ = W0 at *
      have hB0 : wr.heap.size < W0.heap.size := by rw [← hW0]; simp
      generalize wr.heap.size = Bs at *
      clear hW0 hl hE
      refine (wpIn_wide (n := 5)).1 ?_
      refine wpIn_rangeFunc_ownG rfl (by omega) (gf := 59) (lb := #[.pointer (some ⟨Bs, 0, none⟩)]) rfl trivial (enters_of Try.func59 (by kernel_rfl) rfl)
        (rows_stops (5 - 1) Bs n c (by omega) R ws w W0 hR (by omega) hst.i0.hb hB0 (hst.b8.cell 0 _ rfl)) KpB.trans (KpB.book (by have := hst.i0.hb.size; omega) hB0) (Below.refl _ _) (fun _ => rfl)
        (fun pre W => EI w n c R Bs ws (rgs pre) W) (fun _ _ _ => False)
        (fun s X Y row hs hg hr => hs.own hg (fun r e => ⟨by have := (hr r e).1; have := hst.i0.hb.size; omega, (hr r e).2⟩))
        (fun _ _ _ _ _ hs _ _ => hs) hst
        (fun r => { tmps := #[.slice R n c, undef, .int .i64 (lst ws), .pointer (some ⟨w.heap.size, 0, none⟩), .pointer (some ⟨w.heap.size + 1, 0, none⟩), u5, u6, rgV R c r.1, undef, undef, .slice R n c, .int .i64 n, .int .i64 n, .bool false, u14, u15, u16, u17, u18, u19, u20, u21, u22, u23, u24, u25, u26, u27, .slice R n c, .func (.func 59) #[] #[.pointer (some ⟨Bs, 0, none⟩)], rgV R c r.1, undef, undef, undef, undef, undef, undef, undef, undef, undef, undef, undef, undef, undef, undef, undef], defers := [] }) ?assign ?body ?done ?stop
      case assign =>
        intro l x W K hK
        gi_wp2
        exact hK
      case body =>
        rintro l pre ⟨⟨ra, rb⟩, hx1, hx2⟩ W hI hlt
        dsimp only at hx1 hx2 ⊢
        obtain ⟨a0, rfl⟩ : ∃ a0, R = some a0 := by
          cases R with
          | none => have := (hR.out.nil rfl).1; omega
          | some a0 => exact ⟨a0, rfl⟩
        have hSl := (hR.out.below hI.i0.hb).sub wrdE_len (Nat.le_of_lt hx1) hx2
        have cw := rowwide_h (some (a0.add (ra * 5))) (rb - ra) (c - ra) (subs ws ⟨ra, rb⟩) W (Lib.hid hSl) (Lib.hid (fun z hz => hw.out z (List.mem_of_mem_take (List.mem_of_mem_drop hz)))) (by omega)
        have hEl : rgs (pre ++ [⟨⟨ra, rb⟩, hx1, hx2⟩]) = rgs pre ++ [⟨ra, rb⟩] := rgs_snoc pre _
        replace hEl := Lib.hid hEl
        obtain ⟨X1, hX1⟩ : ∃ X1, cutI (rowS (subs ws ⟨ra, rb⟩)) = X1 := ⟨_, rfl⟩
        obtain ⟨e1, he1⟩ : ∃ e1, farI (rowS (subs ws ⟨ra, rb⟩)) = e1 := ⟨_, rfl⟩
        obtain ⟨G, hG⟩ : ∃ G, grt ws (rgs pre) = G := ⟨_, rfl⟩
        obtain ⟨b0, hb0⟩ : ∃ b0, farE ws (rgs pre) = b0 := ⟨_, rfl⟩
        rw [hX1, he1] at cw
        replace cw := Lib.hid cw
        replace hX1 := Lib.hid hX1
        replace he1 := Lib.hid he1
        replace hG := Lib.hid hG
        replace hb0 := Lib.hid hb0
        replace hI := Lib.hid hI
        clear hSl
        cases b0
        all_goals
          gi_wp2_with (refine ⟨trivial, ?_⟩; gi_at_call 47; refine (CallsIn.inRound l (callsIn_wide.2 cw.out)).mono ?_; rintro e w2 ⟨rfl, hb2⟩; have hI2 := Lib.hid (hI.out.below hb2); replace hb2 := Lib.hid hb2; obtain ⟨k3, k4, f3, f4⟩ := hI2.out.i0.cells; rw [hG.out] at k3; rw [hb0.out] at k4)
          exact EI.close hI.out hb2.out hEl.out (by rw [hG.out, hX1.out]) (by rw [hb0.out, he1.out]; rfl)
      case done =>
        rintro D ys W hD hS hI hK
        have hrs2 := hS.uniq hrs.out
        rw [hrs2] at hI
        obtain ⟨k3, k4, f3, f4⟩ := hI.i0.cells
        obtain ⟨G, hG⟩ : ∃ G, grt ws rs = G := ⟨_, rfl⟩
        obtain ⟨b0, hb0⟩ : ∃ b0, farE ws rs = b0 := ⟨_, rfl⟩
        rw [hG] at k3
        rw [hb0] at k4
        replace hI := Lib.hid hI
        replace hK := Lib.hid hK
        replace hrs2 := Lib.hid hrs2
        replace hG := Lib.hid hG
        replace hb0 := Lib.hid hb0
        have hz := Lib.hid hst.i0.hb.size
        clear hS hst hB0
        go_wp2_with fail
        go_region
        go_wp2_with fail
        have hk : Keep w.heap.size W ((W.setCell ⟨w.heap.size, 0, none⟩ (.int .i64 G)).setCell ⟨w.heap.size + 1, 0, none⟩ (.bool b0)).drew :=
          ((Keep.set W _ 0 _ (Nat.le_refl _)).trans (Keep.set _ _ 0 _ (by omega))).trans (keep_drew _)
        have hK2 := hk.o.same D _ hK.out rfl
        have hc3 := cell_put (o' := .deferred none) (a := ⟨w.heap.size, 0, none⟩) (v := .int .i64 G) (w := ((W.setCell ⟨w.heap.size, 0, none⟩ (.int .i64 G)).setCell ⟨w.heap.size + 1, 0, none⟩ (.bool b0)).drew)
          ((World.cell?_setCell_other _ _ _ _ (by simp)).trans (World.cell?_setCell_same _ _ _ k3)) hK2 rfl
        have hc4 := cell_put (o' := .deferred none) (a := ⟨w.heap.size + 1, 0, none⟩) (v := .bool b0) (w := ((W.setCell ⟨w.heap.size, 0, none⟩ (.int .i64 G)).setCell ⟨w.heap.size + 1, 0, none⟩ (.bool b0)).drew)
          (World.cell?_setCell_same _ _ _ ((World.cell?_setCell_other _ _ _ _ (by simp)).trans k4)) hK2 rfl
        refine ⟨by simp, .inl ⟨_, _, rfl, run_takeDeferred hK2, ?_⟩⟩
        refine ⟨.tuple #[.int .i64 (lst ws), .int .i64 G, .bool b0], ?_, by rw [hG.out, hb0.out], ?_⟩
        · simp [results, Try.f25, go_sem, hc3, hc4]
        · exact (hI.out.i0.hb.trans hk.b).trans (belowK_b (w := W0) hz.out _ D _ _ hD hK2 rfl rfl)
      case stop =>
        rintro D c' pre W _ _ h _
        exact h.elim
end Go.Proofs.Ytnmfcbmdopmglaa
