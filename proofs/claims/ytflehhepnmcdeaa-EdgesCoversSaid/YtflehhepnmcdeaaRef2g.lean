/-
  Contract of the document's answer for edges: Cover.
-/
import Derived.Test.YtflehhepnmcdeaaRef2f
import Derived.Test.YtflehhepnmcdeaaRef2e
namespace Go.Proofs.Ytflehhepnmcdeaa
open Go.RowKit

/-- Two rows lie in blocks apart. -/
def Apart (v1 v2 : Value) : Prop := ∀ g, v1.ownBlock = some g → v2.ownBlock ≠ some g
theorem Apart.symm {v1 v2 : Value} (h : Apart v1 v2) : Apart v2 v1 := fun g h2 h1 => h g h1 h2
theorem apart_nil (v : Value) : Apart (.slice none 0 0) v := fun g h => by simp [Value.ownBlock] at h
theorem apart_new {wr : World} {base n : Nat} {e : TypeId} {v1 v2 v' : Value} {xs : List Value} {o : Obj} (h : Apart v1 v2) (n2 : wr.ownsRow base e 1 v2 n xs) (h5 : v'.ownBlock = v1.ownBlock ∨ v'.ownBlock = some (wr.alloc o).heap.size) : Apart v' v2 := fun g hg hg2 => by
  rcases h5 with e | e
  · exact h g (e ▸ hg) hg2
  · rw [e] at hg
    have := (n2.lt g hg2).2
    simp at hg
    omega

/-- What Cover's loop keeps: four rows of the call's own, in blocks of their own, beside the result's. -/
structure RCov (w : World) (o1 o2 o3 o4 : List Int) (v1 v2 v3 v4 : Value) (wr : World) : Prop where
  n1 : wr.ownsRow (w.heap.size + 1) 2 1 v1 o1.length (o1.flatMap intE)
  n2 : wr.ownsRow (w.heap.size + 1) 2 1 v2 o2.length (o2.flatMap intE)
  n3 : wr.ownsRow (w.heap.size + 1) 2 1 v3 o3.length (o3.flatMap intE)
  n4 : wr.ownsRow (w.heap.size + 1) 2 1 v4 o4.length (o4.flatMap intE)
  a12 : Apart v1 v2
  a13 : Apart v1 v3
  a14 : Apart v1 v4
  a23 : Apart v2 v3
  a24 : Apart v2 v4
  a34 : Apart v3 v4
  bx : Box wr w.heap.size [.int .i64 0, .int .i64 0, .int .i64 0, .int .i64 0]
  hb : Below w.heap.size w wr
section
variable {w wr w' : World} {o1 o2 o3 o4 : List Int} {v1 v2 v3 v4 v' : Value}
theorem RCov.rot (h : RCov w o1 o2 o3 o4 v1 v2 v3 v4 wr) : RCov w o2 o3 o4 o1 v2 v3 v4 v1 wr :=
  ⟨h.n2, h.n3, h.n4, h.n1, h.a23, h.a24, h.a12.symm, h.a34, h.a13.symm, h.a14.symm, h.bx, h.hb⟩
theorem RCov.step {y : Int} (h : RCov w o1 o2 o3 o4 v1 v2 v3 v4 wr) (o : Obj) (h3 : w'.ownsRow (w.heap.size + 1) 2 1 v' (o1.length + 1) ((o1 ++ [y]).flatMap intE)) (h4 : (wr.alloc o).grownBy w' v1.ownBlock) (h5 : v'.ownBlock = v1.ownBlock ∨ v'.ownBlock = some (wr.alloc o).heap.size) :
    RCov w (o1 ++ [y]) o2 o3 o4 v' v2 v3 v4 w' :=
  ⟨by simpa using h3, grown_kept (h.n2.alloc o) h4 (fun g hg e => h.a12 g e hg), grown_kept (h.n3.alloc o) h4 (fun g hg e => h.a13 g e hg), grown_kept (h.n4.alloc o) h4 (fun g hg e => h.a14 g e hg),
    apart_new h.a12 h.n2 h5, apart_new h.a13 h.n3 h5, apart_new h.a14 h.n4 h5, h.a23, h.a24, h.a34,
    (h.bx.alloc o).grown h4 (fun e => by have := (h.n1.lt _ e.symm).1; omega), (h.hb.alloc h.hb.size o).grown h4 (by have := h.hb.size; simp; omega) (fun j hj => by have := (h.n1.lt j hj).1; omega)⟩
theorem RCov.base (h : RCov w o1 o2 o3 o4 v1 v2 v3 v4 wr) (o : Obj) : w.heap.size + 1 ≤ (wr.alloc o).heap.size := by have := h.bx.lt; simp; omega
theorem RCov.drew (h : RCov w o1 o2 o3 o4 v1 v2 v3 v4 wr) : RCov w o1 o2 o3 o4 v1 v2 v3 v4 wr.drew :=
  ⟨h.n1, h.n2, h.n3, h.n4, h.a12, h.a13, h.a14, h.a23, h.a24, h.a34, h.bx.drew, h.hb.drew⟩
theorem RCov.below (h : RCov w o1 o2 o3 o4 v1 v2 v3 v4 wr) (hb : Below wr.heap.size wr w') : RCov w o1 o2 o3 o4 v1 v2 v3 v4 w' :=
  ⟨own_below h.n1 hb, own_below h.n2 hb, own_below h.n3 hb, own_below h.n4 hb, h.a12, h.a13, h.a14, h.a23, h.a24, h.a34, h.bx.below hb, h.hb.trans (hb.mono h.hb.size)⟩
end
theorem RCov.start (w : World) : RCov w [] [] [] [] (.slice none 0 0) (.slice none 0 0) (.slice none 0 0) (.slice none 0 0) (w.alloc (.cells #[.int .i64 0, .int .i64 0, .int .i64 0, .int .i64 0] 33)) :=
  ⟨World.ownsRow_nil _ _ _ _, World.ownsRow_nil _ _ _ _, World.ownsRow_nil _ _ _ _, World.ownsRow_nil _ _ _ _, apart_nil _, apart_nil _, apart_nil _, apart_nil _, apart_nil _, apart_nil _, Box.new w [_, _, _, _] _, (Below.refl _ _).alloc (Nat.le_refl _) _⟩

theorem somes_no {l : List Four} {k : Nat} {x : Four} (hx : l[k]? = some x) (hp : somePts x = false) : (l.take (k + 1)).filter somePts = (l.take k).filter somePts := by
  rw [List.take_add_one, hx]; simp [hp]
theorem somes_yes {l : List Four} {k : Nat} {x : Four} (hx : l[k]? = some x) (hp : somePts x = true) : (l.take (k + 1)).filter somePts = (l.take k).filter somePts ++ [x] := by
  rw [List.take_add_one, hx]; simp [hp]
/-- The rows of the rectangles that have points, of the first k. -/
def RCk (w : World) (l : List Four) (k : Nat) (v1 v2 v3 v4 : Value) (wr : World) : Prop :=
  RCov w (((l.take k).filter somePts).map (·.a)) (((l.take k).filter somePts).map (·.b)) (((l.take k).filter somePts).map (·.c)) (((l.take k).filter somePts).map (·.d)) v1 v2 v3 v4 wr

set_option maxRecDepth 100000 in
set_option maxHeartbeats 6400000 in
theorem rCover_h (A : Option Addr) (n c q : Nat) (l fs : List Four) (w : World) (h : Hid (Sl fourE w A n c l)) (he : Hid (l.filter somePts = fs)) (hq : Hid (fs.length = q)) (hok : Hid (∀ r ∈ fs, FourOk r)) (hn : n ≤ 1000) (hqn : q ≤ n)
    (vX vY vW vH : Int) (hX : Hid (leastI (·.a) fs = vX)) (hY : Hid (leastI (·.b) fs = vY)) (hW : Hid (mostI (fun r => r.a + r.c - vX) fs = vW)) (hH : Hid (mostI (fun r => r.b + r.d - vY) fs = vH)) :
    Calls Try.prog 22 #[.slice A n c] w fun e w' => e = .returned (.tuple #[.agg #[.int .i64 (cutI vX), .int .i64 (cutI vY), .int .i64 (cutI vW), .int .i64 (cutI vH)], .bool (farI vX || farI vW || (farI vY || farI vH))]) ∧ Below w.heap.size w w' := by
  have hst : Hid (RCk w l 0 (.slice none 0 0) (.slice none 0 0) (.slice none 0 0) (.slice none 0 0) (w.alloc (.cells #[.int .i64 0, .int .i64 0, .int .i64 0, .int .i64 0] 33))) := Lib.hid (RCov.start w)
  go_enter Try.func22, Try.ntmps22
  go_wp2_with fail
  go_loopw [4, 5, 6, 7, 8] (fun v1 v2 v3 v4 i wr => ∃ k : Nat, k ≤ n ∧ i = .int .i64 k ∧ Hid (RCk w l k v1 v2 v3 v4 wr)) (fun _ _ _ _ i _ => n - (intOf i).toNat)
  case atStart => exact ⟨0, Nat.zero_le _, rfl, hst⟩
  case round =>
    obtain ⟨k, hk, rfl, hinv⟩ := hrel
    by_cases hlt : k < n
    · obtain ⟨x, hx⟩ : ∃ x, l[k]? = some x := ⟨l[k]'(by rw [← h.out.len]; exact hlt), List.getElem?_eq_getElem _⟩
      obtain ⟨a, rfl, hab, c0, c1, c2, c3⟩ := (h.out.at_.keep hinv.out.hb).four hx
      have cell : ∀ v, Below w.heap.size w v → v.cell? (a.add (k * 4)) = some (.int .i64 x.a) ∧ v.cell? ⟨(a.add (k * 4)).block, (a.add (k * 4)).off + 1, none⟩ = some (.int .i64 x.b) ∧ v.cell? ⟨(a.add (k * 4)).block, (a.add (k * 4)).off + 2, none⟩ = some (.int .i64 x.c) ∧ v.cell? ⟨(a.add (k * 4)).block, (a.add (k * 4)).off + 3, none⟩ = some (.int .i64 x.d) := fun v hb => by
        obtain ⟨a', e, _, d0, d1, d2, d3⟩ := (h.out.at_.keep hb).four hx
        obtain rfl := Option.some.inj e
        exact ⟨d0, d1, d2, d3⟩
      have cell := Lib.hid cell
      have hx' := Lib.hid hx
      have hi1 : (0 : Int) ≤ (k : Int) := by omega
      have hi2 : (k : Int) < (n : Int) := by omega
      have hno := Lib.hid (somes_no hx)
      have hyes := Lib.hid (somes_yes hx)
      have hlen : Hid (((l.take k).filter somePts).length + 1 ≤ 100000000) := Lib.hid (by
        have h1 : ((l.take k).filter somePts).length ≤ (l.take k).length := List.length_filter_le _ _
        have h2 : (l.take k).length ≤ k := List.length_take_le _ _
        omega)
      clear hx hst
      go_wp2_with fail
      refine (rsome_any _ _ _ _ _).mono ?_; rintro e w2 ⟨rfl, hb2⟩
      have hI : RCk w l k u4 u5 u6 u7 w2 := RCov.below hinv.out hb2
      clear hinv hb2 c0 c1 c2 c3
      rcases hp : pointsB x.c x.d with _ | _
      · have hnx : Hid (RCk w l (k + 1) u4 u5 u6 u7 w2) := Lib.hid (by unfold RCk; rw [hno.out hp]; exact hI)
        clear hI
        go_wp2_with fail
        go_roundw
        case rel => exact ⟨k + 1, by omega, by go_num, hnx⟩
        case measure => simp [intOf]; omega
      · have hf := hyes.out hp
        unfold RCk at hI
        have hl1 : Hid ((((l.take k).filter somePts).map (·.a)).length + 1 ≤ 100000000) := Lib.hid (by rw [List.length_map]; exact hlen.out)
        have hl2 : Hid ((((l.take k).filter somePts).map (·.b)).length + 1 ≤ 100000000) := Lib.hid (by rw [List.length_map]; exact hlen.out)
        have hl3 : Hid ((((l.take k).filter somePts).map (·.c)).length + 1 ≤ 100000000) := Lib.hid (by rw [List.length_map]; exact hlen.out)
        have hl4 : Hid ((((l.take k).filter somePts).map (·.d)).length + 1 ≤ 100000000) := Lib.hid (by rw [List.length_map]; exact hlen.out)
        have hfin : ∀ v1 v2 v3 v4 wr, RCov w (((l.take k).filter somePts).map (·.a) ++ [x.a]) (((l.take k).filter somePts).map (·.b) ++ [x.b]) (((l.take k).filter somePts).map (·.c) ++ [x.c]) (((l.take k).filter somePts).map (·.d) ++ [x.d]) v1 v2 v3 v4 wr → RCk w l (k + 1) v1 v2 v3 v4 wr := fun v1 v2 v3 v4 wr hh => by
          unfold RCk; rw [hf]; simpa using hh
        have hfin := Lib.hid hfin
        clear hf hno hyes hlen
        generalize ((l.take k).filter somePts).map (·.a) = o1 at *
        generalize ((l.take k).filter somePts).map (·.b) = o2 at *
        generalize ((l.take k).filter somePts).map (·.c) = o3 at *
        generalize ((l.take k).filter somePts).map (·.d) = o4 at *
        have d0 := (cell.out _ hI.hb).1
        go_wp2_with (first | (at_builtin; have own1 := Lib.hid (hI.n1.alloc (.cells ([x.a].flatMap intE).toArray 2)); have hlit := Lib.hid (Holds.lit (f := intE) w2 [x.a] 2); have hbase := Lib.hid (hI.base (.cells ([x.a].flatMap intE).toArray 2)); (refine append_row rfl (.tmp 26) (.tmp 32) 52 2 rfl _ 8 Try.underlying52 infoInt rfl (by decide) (by decide) intE_len intE_one (w.heap.size + 1) u4 o1.length o1 rfl own1.out _ _ 1 1 [_] rfl (fun h => by cases h) (Lib.hid rfl) hlit.out hl1.out hbase.out ?_); intro v1 w3 h3 h4 h5; have J1 := (RCov.step hI _ h3 h4 h5).rot; clear h3 h4 h5 own1 hlit hbase hI; have d1 := (cell.out _ J1.hb).2.1) | (at_builtin; have own2 := Lib.hid (J1.n1.alloc (.cells ([x.b].flatMap intE).toArray 2)); have hlit := Lib.hid (Holds.lit (f := intE) w3 [x.b] 2); have hbase := Lib.hid (J1.base (.cells ([x.b].flatMap intE).toArray 2)); (refine append_row rfl (.tmp 34) (.tmp 40) 52 2 rfl _ 8 Try.underlying52 infoInt rfl (by decide) (by decide) intE_len intE_one (w.heap.size + 1) u5 o2.length o2 rfl own2.out _ _ 1 1 [_] rfl (fun h => by cases h) (Lib.hid rfl) hlit.out hl2.out hbase.out ?_); intro v2 w4 h3 h4 h5; have J2 := (RCov.step J1 _ h3 h4 h5).rot; clear h3 h4 h5 own2 hlit hbase J1; have d2 := (cell.out _ J2.hb).2.2.1) | (at_builtin; have own3 := Lib.hid (J2.n1.alloc (.cells ([x.c].flatMap intE).toArray 2)); have hlit := Lib.hid (Holds.lit (f := intE) w4 [x.c] 2); have hbase := Lib.hid (J2.base (.cells ([x.c].flatMap intE).toArray 2)); (refine append_row rfl (.tmp 42) (.tmp 48) 52 2 rfl _ 8 Try.underlying52 infoInt rfl (by decide) (by decide) intE_len intE_one (w.heap.size + 1) u6 o3.length o3 rfl own3.out _ _ 1 1 [_] rfl (fun h => by cases h) (Lib.hid rfl) hlit.out hl3.out hbase.out ?_); intro v3 w5 h3 h4 h5; have J3 := (RCov.step J2 _ h3 h4 h5).rot; clear h3 h4 h5 own3 hlit hbase J2; have d3 := (cell.out _ J3.hb).2.2.2) | (at_builtin; have own4 := Lib.hid (J3.n1.alloc (.cells ([x.d].flatMap intE).toArray 2)); have hlit := Lib.hid (Holds.lit (f := intE) w5 [x.d] 2); have hbase := Lib.hid (J3.base (.cells ([x.d].flatMap intE).toArray 2)); (refine append_row rfl (.tmp 50) (.tmp 56) 52 2 rfl _ 8 Try.underlying52 infoInt rfl (by decide) (by decide) intE_len intE_one (w.heap.size + 1) u7 o4.length o4 rfl own4.out _ _ 1 1 [_] rfl (fun h => by cases h) (Lib.hid rfl) hlit.out hl4.out hbase.out ?_); intro v4 w6 h3 h4 h5; have J4 := (RCov.step J3 _ h3 h4 h5).rot; clear h3 h4 h5 own4 hlit hbase J3))
        have hnx := Lib.hid (hfin.out _ _ _ _ _ J4)
        clear J4 hfin
        go_wp2_with fail
        go_roundw
        case rel => exact ⟨k + 1, by omega, by go_num, hnx⟩
        case measure => simp [intOf]; omega
    · have hkn : k = n := by omega
      have hI : RCov w (fs.map (·.a)) (fs.map (·.b)) (fs.map (·.c)) (fs.map (·.d)) u4 u5 u6 u7 wr := by
        have := hinv.out
        unfold RCk at this
        rw [List.take_of_length_le (by rw [← h.out.len]; omega), he.out] at this
        exact this
      have hl (g : Four → Int) : (fs.map g).length = q := by rw [List.length_map]; exact hq.out
      obtain ⟨E1, e1, hv1, hE1, -⟩ := Sl.own hI.n1 intE_len (by omega)
      obtain ⟨E2, e2, hv2, hE2, -⟩ := Sl.own hI.n2 intE_len (by omega)
      obtain ⟨E3, e3, hv3, hE3, -⟩ := Sl.own hI.n3 intE_len (by omega)
      obtain ⟨E4, e4, hv4, hE4, -⟩ := Sl.own hI.n4 intE_len (by omega)
      rw [hl] at hv1 hv2 hv3 hv4 hE1 hE2 hE3 hE4
      subst hv1 hv2 hv3 hv4
      have hb0 := Lib.hid hI.hb
      have b1 := hI.bx
      have hk1 : ¬ k < n := hlt
      clear hinv hst hkn hI hl
      by_cases hq0 : q = 0
      · subst hq0
        obtain rfl : fs = [] := List.eq_nil_of_length_eq_zero hq.out
        obtain rfl : vX = 0 := by rw [← hX.out]; rfl
        obtain rfl : vY = 0 := by rw [← hY.out]; rfl
        obtain rfl : vW = 0 := by rw [← hW.out]; rfl
        obtain rfl : vH = 0 := by rw [← hH.out]; rfl
        have hv := Lib.hid (show cutI 0 = 0 ∧ farI 0 = false by decide)
        have p := b1.four
        have pf := b1.four_free
        have hz := rect_zero
        go_wp2_with fail
        generalize hW5 : World.setCell (World.setCell (World.setCell (World.setCell wr _ _) _ _) _ _) _ _ = W5
        obtain ⟨k3, hq6⟩ : Box W5 w.heap.size [.int .i64 0, .int .i64 0, .int .i64 0, .int .i64 0] ∧ Below w.heap.size w W5 := by
          subst hW5
          exact ⟨(((b1.set 0 _ (by simp)).set 1 _ (by simp)).set 2 _ (by simp)).set 3 _ (by simp), (((hb0.out.setCell (by simp) _).setCell (by simp) _).setCell (by simp) _).setCell (by simp) _⟩
        obtain ⟨q0, q1, q2, q3⟩ := k3.four
        clear hW5 p pf b1
        exact bodyPost_ret (v := .tuple #[.agg #[.int .i64 0, .int .i64 0, .int .i64 0, .int .i64 0], .bool false]) (by simp [results, Try.results22, go_sem, q0, q1, q2, q3]) rfl ⟨by rw [hv.out.1, hv.out.2]; rfl, hq6⟩
      · have hne : ((q : Int) == 0) = false := by simp; omega
        have hS : Hid (∀ v, Below wr.heap.size wr v → Sl intE v E2 q e2 (fs.map (·.b)) ∧ Sl intE v E4 q e4 (fs.map (·.d))) := Lib.hid (fun v hb => ⟨hE2.below hb, hE4.below hb⟩)
        have r1 := Lib.hid (rcov_h (·.a) (·.c) E1 E3 q e1 e3 fs wr (Lib.hid hE1) (Lib.hid hE3) (Lib.hid (fun r hr => (hok.out r hr).x)) (Lib.hid (fun r hr => (hok.out r hr).w)) hq (by omega) (by omega) vX vW hX hW)
        clear hE1 hE2 hE3 hE4 h
        go_wp2_with fail
        refine r1.out.mono ?_; rintro e w2 ⟨rfl, hb2⟩
        have r2 := Lib.hid (rcov_h (·.b) (·.d) E2 E4 q e2 e4 fs w2 (Lib.hid (hS.out _ hb2).1) (Lib.hid (hS.out _ hb2).2) (Lib.hid (fun r hr => (hok.out r hr).y)) (Lib.hid (fun r hr => (hok.out r hr).h)) hq (by omega) (by omega) vY vH hY hH)
        have b1 := b1.below hb2
        have hb3 := hb0.out.trans (hb2.mono hb0.out.size)
        clear r1 hb2 hb0
        go_wp2_with fail
        refine r2.out.mono ?_; rintro e w4 ⟨rfl, hb4⟩
        have b1 := b1.below hb4
        have hb0 := Lib.hid (hb3.trans (hb4.mono hb3.size))
        clear r2 hb4 hb3
        have p := b1.four
        have pf := b1.four_free
        generalize hcX : cutI vX = cX
        generalize hcY : cutI vY = cY
        generalize hcW : cutI vW = cW
        generalize hcH : cutI vH = cH
        generalize hF2 : (farI vY || farI vH) = F2
        generalize hF1 : (farI vX || farI vW) = F1
        have hall := Lib.hid (And.intro hcX (And.intro hcY (And.intro hcW (And.intro hcH (And.intro hF2 hF1)))))
        clear hcX hcY hcW hcH hF1 hF2
        cases F1
        all_goals
          go_wp2_with fail
          generalize hW5 : World.setCell (World.setCell (World.setCell (World.setCell w4 _ _) _ _) _ _) _ _ = W5
          obtain ⟨k3, hq6⟩ : Box W5 w.heap.size [.int .i64 cX, .int .i64 cY, .int .i64 cW, .int .i64 cH] ∧ Below w.heap.size w W5 := by
            subst hW5
            exact ⟨(((b1.set 0 _ (by simp)).set 1 _ (by simp)).set 2 _ (by simp)).set 3 _ (by simp), (((hb0.out.setCell (by simp) _).setCell (by simp) _).setCell (by simp) _).setCell (by simp) _⟩
          obtain ⟨q0, q1, q2, q3⟩ := k3.four
          clear hW5 p pf b1
          first
          | exact bodyPost_ret (v := .tuple #[.agg #[.int .i64 cX, .int .i64 cY, .int .i64 cW, .int .i64 cH], .bool F2]) (by simp [results, Try.results22, go_sem, q0, q1, q2, q3]) rfl ⟨by rw [hall.out.1, hall.out.2.1, hall.out.2.2.1, hall.out.2.2.2.1, hall.out.2.2.2.2.1, hall.out.2.2.2.2.2]; rfl, hq6⟩
          | exact bodyPost_ret (v := .tuple #[.agg #[.int .i64 cX, .int .i64 cY, .int .i64 cW, .int .i64 cH], .bool true]) (by simp [results, Try.results22, go_sem, q0, q1, q2, q3]) rfl ⟨by rw [hall.out.1, hall.out.2.1, hall.out.2.2.1, hall.out.2.2.2.1, hall.out.2.2.2.2.1, hall.out.2.2.2.2.2]; rfl, hq6⟩

theorem rCover_any (A : Option Addr) (n c : Nat) (l : List Four) (w : World) (h : Sl fourE w A n c l) (hok : ∀ r ∈ l, FourOk r) (hn : n ≤ 1000) :
    Calls Try.prog 22 #[.slice A n c] w fun e w' => e = .returned (.tuple #[.agg #[.int .i64 (cutI (coverX (l.filter somePts))), .int .i64 (cutI (coverY (l.filter somePts))), .int .i64 (cutI (coverW (l.filter somePts))), .int .i64 (cutI (coverH (l.filter somePts)))], .bool (coverFar (l.filter somePts))]) ∧ Below w.heap.size w w' := by
  have e : coverFar (l.filter somePts) = (farI (coverX (l.filter somePts)) || farI (coverW (l.filter somePts)) || (farI (coverY (l.filter somePts)) || farI (coverH (l.filter somePts)))) := by
    unfold coverFar
    generalize farI (coverX _) = a
    generalize farI (coverY _) = b
    generalize farI (coverW _) = c
    generalize farI (coverH _) = d
    cases a <;> cases b <;> cases c <;> cases d <;> rfl
  rw [e]
  exact rCover_h A n c _ l _ w (Lib.hid h) (Lib.hid rfl) (Lib.hid rfl) (Lib.hid (fun r hr => hok r (List.mem_filter.1 hr).1)) hn (Nat.le_trans (List.length_filter_le _ _) (by rw [← h.len]; exact Nat.le_refl _)) _ _ _ _ (Lib.hid rfl) (Lib.hid rfl) (Lib.hid rfl) (Lib.hid rfl)
end Go.Proofs.Ytflehhepnmcdeaa
