/-
  Contracts of the document's answer for edges: Sides, Across.
-/
import Derived.Test.YtflehhepnmcdeaaSides
import Derived.Test.YtflehhepnmcdeaaSumRef
import Derived.Test.YtflehhepnmcdeaaRef2b
import Derived.Deep.Slices
import Derived.Deep.RegionLaw
namespace Go.Proofs.Ytflehhepnmcdeaa
open Go.RowKit

/-- The numbers of one side, of all. -/
def rowI (l : List Four) (k : Nat) : List Int := l.map fun r => pick r k
theorem rowI_sum (l : List Four) (k : Nat) : (rowI l k).sum = sideI l k := by
  unfold rowI sideI columnI
  congr 1
  induction l with
  | nil => rfl
  | cons x l ih => rw [List.map_cons, List.flatMap_cons, ih]; rfl
theorem rowI_len (l : List Four) (k : Nat) : (rowI l k).length = l.length := by simp [rowI]
theorem rowI_succ {l : List Four} {k j : Nat} {x : Four} (h : l[j]? = some x) : rowI (l.take (j + 1)) k = rowI (l.take j) k ++ [pick x k] := by
  unfold rowI; rw [List.take_add_one, h]; simp
theorem rowI_ok {l : List Four} {k : Nat} (h : ∀ r ∈ l, FourOk r) : ∀ z ∈ rowI l k, I64 z := by
  intro z hz
  obtain ⟨r, hr, rfl⟩ := List.mem_map.1 hz
  have := h r hr
  unfold pick
  split
  · exact this.x
  · split
    · exact this.y
    · split
      · exact this.w
      · exact this.h

theorem four_pick (r : Four) {k : Nat} (hk : k < 4) : (fourE r)[k]? = some (.int .i64 (pick r k)) := by
  rcases (by omega : k = 0 ∨ k = 1 ∨ k = 2 ∨ k = 3) with rfl | rfl | rfl | rfl <;> simp [fourE, pick]

def farTo (l : List Four) (k : Nat) : Bool := (decide (0 < k) && farI (sideI l 0)) || (decide (1 < k) && farI (sideI l 1)) || (decide (2 < k) && farI (sideI l 2)) || (decide (3 < k) && farI (sideI l 3))

/-- What the outer loop keeps. -/
structure ROut (w : World) (l : List Four) (k : Nat) (wr : World) : Prop where
  r0 : Box wr w.heap.size [.int .i64 0, .int .i64 0, .int .i64 0, .int .i64 0]
  r1 : Box wr (w.heap.size + 1) [sideV l k 0, sideV l k 1, sideV l k 2, sideV l k 3]
  hb : Below w.heap.size w wr
/-- What the inner loop keeps. -/
structure RIn (w : World) (l : List Four) (k : Nat) (out : List Int) (v : Value) (wr : World) : Prop where
  o : ROut w l k wr
  own : wr.ownsRow (w.heap.size + 2) 2 1 v out.length (out.flatMap intE)

theorem ROut.below {w : World} {l : List Four} {k : Nat} {wr w' : World} (h : ROut w l k wr) (hb : Below wr.heap.size wr w') : ROut w l k w' := ⟨h.r0.below hb, h.r1.below hb, h.hb.trans (hb.mono h.hb.size)⟩
theorem ROut.start (w : World) (l : List Four) : ROut w l 0 ((w.alloc (.cells #[.int .i64 0, .int .i64 0, .int .i64 0, .int .i64 0] 24)).alloc (.cells #[.int .i64 0, .int .i64 0, .int .i64 0, .int .i64 0] 24)) := by
  refine ⟨?_, ?_, ((Below.refl _ _).alloc (Nat.le_refl _) _).alloc (by simp) _⟩
  · exact (Box.new w [.int .i64 0, .int .i64 0, .int .i64 0, .int .i64 0] 24).alloc _
  · simpa [sideV] using Box.new (w.alloc (.cells #[.int .i64 0, .int .i64 0, .int .i64 0, .int .i64 0] 24)) [.int .i64 0, .int .i64 0, .int .i64 0, .int .i64 0] 24
theorem RIn.step {w : World} {l : List Four} {k : Nat} {out : List Int} {v v' : Value} {wr w' : World} {y : Int} (h : RIn w l k out v wr) (o : Obj)
    (h3 : w'.ownsRow (w.heap.size + 2) 2 1 v' (out.length + 1) ((out ++ [y]).flatMap intE)) (h4 : (wr.alloc o).grownBy w' v.ownBlock) : RIn w l k (out ++ [y]) v' w' := by
  have hk : ∀ j, v.ownBlock = some j → w.heap.size + 2 ≤ j := fun j hj => (h.own.lt j hj).1
  refine ⟨⟨(h.o.r0.alloc o).grown h4 (fun e => by have := hk _ e.symm; omega), (h.o.r1.alloc o).grown h4 (fun e => by have := hk _ e.symm; omega), (h.o.hb.alloc h.o.hb.size o).grown h4 (by have := h.o.hb.size; simp; omega) (fun j hj => by have := hk j hj; omega)⟩, by simpa using h3⟩

theorem rout_step {w wr : World} {l : List Four} {k : Nat} (h : ROut w l k wr) (hk : k < 4) : ROut w l (k + 1) (wr.setCell ⟨w.heap.size + 1, k, none⟩ (.int .i64 (cutI (sideI l k)))) := by
  have e0 : [sideV l (k + 1) 0, sideV l (k + 1) 1, sideV l (k + 1) 2, sideV l (k + 1) 3] = [sideV l k 0, sideV l k 1, sideV l k 2, sideV l k 3].set k (.int .i64 (cutI (sideI l k))) := by
    rcases (by omega : k = 0 ∨ k = 1 ∨ k = 2 ∨ k = 3) with rfl | rfl | rfl | rfl <;> simp [sideV]
  refine ⟨h.r0.off (by omega) _ _, ?_, h.hb.setCell (by simp) _⟩
  rw [e0]; exact h.r1.set k _ (by simpa using hk)

set_option maxRecDepth 100000 in
set_option maxHeartbeats 3200000 in
theorem rSides_h (A : Option Addr) (n c : Nat) (l : List Four) (w : World) (h : Hid (Sl fourE w A n c l)) (hok : Hid (∀ r ∈ l, FourOk r)) (hn : n ≤ 1000) :
    Calls Try.prog 12 #[.slice A n c] w fun e w' => e = .returned (.tuple #[.agg #[.int .i64 (cutI (sideI l 0)), .int .i64 (cutI (sideI l 1)), .int .i64 (cutI (sideI l 2)), .int .i64 (cutI (sideI l 3))], .bool (farI (sideI l 0) || farI (sideI l 1) || farI (sideI l 2) || farI (sideI l 3))]) ∧ Below w.heap.size w w' := by
  have hst := Lib.hid (ROut.start w l)
  go_enter Try.func12, Try.ntmps12
  go_wp2_with fail
  go_loopw [5, 6] (fun f i wr => ∃ k : Nat, k ≤ 4 ∧ i = .int .i64 k ∧ f = .bool (farTo l k) ∧ Hid (ROut w l k wr)) (fun _ i _ => 4 - (intOf i).toNat)
  case atStart => exact ⟨0, Nat.zero_le _, rfl, by simp [farTo], hst⟩
  case round =>
    obtain ⟨k, hk, rfl, rfl, hinv⟩ := hrel
    by_cases hlt : k < 4
    · have hi1 : (0 : Int) ≤ (k : Int) := by omega
      have hi2 : (k : Int) < 4 := by omega
      have hst2 : Hid (RIn w l k (rowI (l.take 0) k) (.slice none 0 0) wr) := Lib.hid ⟨hinv.out, World.ownsRow_nil _ _ _ _⟩
      clear hinv hst
      go_wp2_with fail
      go_loopw [7, 8] (fun v i wr' => ∃ j : Nat, j ≤ n ∧ i = .int .i64 j ∧ Hid (RIn w l k (rowI (l.take j) k) v wr')) (fun _ i _ => n - (intOf i).toNat)
      case atStart => exact ⟨0, Nat.zero_le _, rfl, hst2⟩
      case round =>
        obtain ⟨j, hj, rfl, hinv⟩ := hrel
        by_cases hlt2 : j < n
        · obtain ⟨x, hx⟩ : ∃ x, l[j]? = some x := ⟨l[j]'(by rw [← h.out.len]; exact hlt2), List.getElem?_eq_getElem _⟩
          obtain ⟨a, rfl, hab, hac⟩ := (h.out.at_.keep hinv.out.o.hb).get fourE_len hx
          have ck : wr.cell? ((a.add (j * 4)).add k) = some (.int .i64 (pick x k)) := by rw [Go.Deep.add_add]; exact hac k _ (four_pick x hlt)
          clear hac
          have hx' := Lib.hid hx
          have hj1 : (0 : Int) ≤ (j : Int) := by omega
          have hj2 : (j : Int) < (n : Int) := by omega
          have hnx : Hid (∀ v' w', w'.ownsRow (w.heap.size + 2) 2 1 v' ((rowI (l.take j) k).length + 1) (((rowI (l.take j) k) ++ [pick x k]).flatMap intE) →
              (wr.alloc (.cells ([pick x k].flatMap intE).toArray 2)).grownBy w' u7.ownBlock → RIn w l k (rowI (l.take (j + 1)) k) v' w') := Lib.hid (fun v' w' k1 k2 => by
            rw [rowI_succ hx]; exact hinv.out.step _ k1 k2)
          have hown2 := Lib.hid (hinv.out.own.alloc (.cells ([pick x k].flatMap intE).toArray 2))
          have hlit := Lib.hid (Holds.lit (f := intE) wr [pick x k] 2)
          have hbase : Hid (w.heap.size + 2 ≤ (wr.alloc (.cells ([pick x k].flatMap intE).toArray 2)).heap.size) := Lib.hid (by have := hinv.out.o.r1.lt; simp; omega)
          have hlen : Hid ((rowI (l.take j) k).length + 1 ≤ 100000000) := Lib.hid (by rw [rowI_len]; have : (l.take j).length ≤ j := List.length_take_le _ _; omega)
          clear hx hst2 hinv
          generalize rowI (l.take j) k = out at *
          generalize pick x k = y at *
          go_wp2_with (at_builtin; refine append_row rfl (.tmp 21) (.tmp 28) 52 2 rfl _ 8 Try.underlying52 infoInt rfl (by decide) (by decide) intE_len intE_one (w.heap.size + 2) u7 out.length out rfl hown2.out _ _ 1 1 [_] rfl (fun h => by cases h) (Lib.hid rfl) hlit.out hlen.out hbase.out ?_; intro v' w' h3 h4 h5; have hnx := Lib.hid (hnx.out v' w' h3 h4); clear h3 h4 h5)
          go_roundw
          case rel => exact ⟨j + 1, by omega, by go_num, hnx⟩
          case measure => simp [intOf]; omega
        · have hjn : j = n := by omega
          obtain ⟨E, c', rfl, hE, -⟩ : ∃ (E : Option Addr) (c' : Nat), u7 = .slice E (rowI l k).length c' ∧ Sl intE wr E (rowI l k).length c' (rowI l k) ∧ New (w.heap.size + 2) E := by
            have ho := hinv.out.own
            rw [List.take_of_length_le (by rw [← h.out.len]; omega)] at ho
            exact Sl.own ho intE_len (by omega)
          have hI := hE.at_.ints (rowI_ok hok.out)
          have hlen2 : (rowI l k).length ≤ 20000 := by rw [rowI_len, ← h.out.len]; omega
          have cs := refsum_any E c' (rowI l k).length (rowI l k) wr hI (Lib.hid rfl) hlen2
          rw [rowI_sum] at cs
          have cs := Lib.hid cs
          have ho := hinv.out.o
          have hF1 : Hid (farTo l (k + 1) = (farTo l k || farI (sideI l k))) := Lib.hid (by
            rcases (by omega : k = 0 ∨ k = 1 ∨ k = 2 ∨ k = 3) with rfl | rfl | rfl | rfl <;> simp [farTo])
          have hj1 : ¬ j < n := hlt2
          clear hinv hst2 hjn hI hE hlen2
          generalize (rowI l k).length = q at *
          go_wp2_with fail
          refine cs.out.mono ?_; rintro e w4 ⟨rfl, hq4⟩
          have ho4 := ho.below hq4
          have hnx := Lib.hid (rout_step ho4 hlt)
          obtain ⟨o1, d1⟩ : ∃ u, w4.cell? ⟨w.heap.size + 1, k, none⟩ = some u := ⟨_, ho4.r1.cell k _ (List.getElem?_eq_getElem (by simpa using hlt))⟩
          have f1 := ho4.r1.free k (by simpa using hlt)
          clear cs hq4 ho ho4
          rcases hF : farTo l k with _ | _
          all_goals
            rw [hF] at hF1
            go_wp2_with fail
            go_roundw
            case rel => exact ⟨k + 1, by omega, by go_num, by rw [hF1.out]; rfl, hnx⟩
            case measure => simp [intOf]; omega
    · have hk4 : k = 4 := by omega
      subst hk4
      have h0 := hinv.out.r0
      have h1 : Box wr (w.heap.size + 1) [.int .i64 (cutI (sideI l 0)), .int .i64 (cutI (sideI l 1)), .int .i64 (cutI (sideI l 2)), .int .i64 (cutI (sideI l 3))] := by simpa [sideV] using hinv.out.r1
      have hF : farTo l 4 = (farI (sideI l 0) || farI (sideI l 1) || farI (sideI l 2) || farI (sideI l 3)) := by simp [farTo]
      rw [hF]
      have hb0 := Lib.hid hinv.out.hb
      have p0 := h0.four
      have p1 := h1.four
      have f0 := h0.four_free
      clear hinv hst hF h1
      go_wp2_with fail
      generalize hW5 : World.setCell (World.setCell (World.setCell (World.setCell wr _ _) _ _) _ _) _ _ = W5
      obtain ⟨k3, hq6⟩ : Box W5 w.heap.size [.int .i64 (cutI (sideI l 0)), .int .i64 (cutI (sideI l 1)), .int .i64 (cutI (sideI l 2)), .int .i64 (cutI (sideI l 3))] ∧ Below w.heap.size w W5 := by
        subst hW5
        exact ⟨(((h0.set 0 _ (by simp)).set 1 _ (by simp)).set 2 _ (by simp)).set 3 _ (by simp), (((hb0.out.setCell (by simp) _).setCell (by simp) _).setCell (by simp) _).setCell (by simp) _⟩
      obtain ⟨q0, q1, q2, q3⟩ := k3.four
      clear hW5 p0 p1 f0 h0
      exact bodyPost_ret (v := .tuple #[.agg #[.int .i64 (cutI (sideI l 0)), .int .i64 (cutI (sideI l 1)), .int .i64 (cutI (sideI l 2)), .int .i64 (cutI (sideI l 3))], .bool (farI (sideI l 0) || farI (sideI l 1) || farI (sideI l 2) || farI (sideI l 3))]) (by simp [results, Try.results12, go_sem, q0, q1, q2, q3]) rfl ⟨rfl, hq6⟩

/-- What Across' loop keeps: two rows of the call's own, in blocks of their own. -/
structure RAcr (w : World) (o1 o2 : List Int) (v1 v2 : Value) (wr : World) : Prop where
  n1 : wr.ownsRow w.heap.size 2 1 v1 o1.length (o1.flatMap intE)
  n2 : wr.ownsRow w.heap.size 2 1 v2 o2.length (o2.flatMap intE)
  ne : ∀ g, v1.ownBlock = some g → v2.ownBlock ≠ some g
  hb : Below w.heap.size w wr

theorem grown_kept {w w' : World} {base : Nat} {e : TypeId} {size n : Nat} {v : Value} {xs : List Value} {row : Option Nat} (h : w.ownsRow base e size v n xs) (hg : w.grownBy w' row) (hne : ∀ g, v.ownBlock = some g → row ≠ some g) : w'.ownsRow base e size v n xs := by
  refine h.kept hg ?_
  rcases hv : v.ownBlock with _ | g
  · exact .inl rfl
  · exact .inr (fun e => hne g hv e.symm)

theorem RAcr.step1 {w : World} {o1 o2 : List Int} {v1 v2 v' : Value} {wr w' : World} {ys : List Int} (h : RAcr w o1 o2 v1 v2 wr) (o : Obj)
    (h3 : w'.ownsRow w.heap.size 2 1 v' (o1.length + ys.length) ((o1 ++ ys).flatMap intE)) (h4 : (wr.alloc o).grownBy w' v1.ownBlock) (h5 : v'.ownBlock = v1.ownBlock ∨ v'.ownBlock = some (wr.alloc o).heap.size) : RAcr w (o1 ++ ys) o2 v' v2 w' := by
  refine ⟨by simpa using h3, grown_kept (h.n2.alloc o) h4 (fun g hg e => h.ne g e hg), fun g hg hg2 => ?_, (h.hb.alloc h.hb.size o).grown h4 (by have := h.hb.size; simp; omega) (fun j hj => (h.n1.lt j hj).1)⟩
  rcases h5 with e | e
  · exact h.ne g (e ▸ hg) hg2
  · rw [e] at hg
    have := (h.n2.lt g hg2).2
    simp at hg
    omega
theorem RAcr.step2 {w : World} {o1 o2 : List Int} {v1 v2 v' : Value} {wr w' : World} {ys : List Int} (h : RAcr w o1 o2 v1 v2 wr) (o : Obj)
    (h3 : w'.ownsRow w.heap.size 2 1 v' (o2.length + ys.length) ((o2 ++ ys).flatMap intE)) (h4 : (wr.alloc o).grownBy w' v2.ownBlock) (h5 : v'.ownBlock = v2.ownBlock ∨ v'.ownBlock = some (wr.alloc o).heap.size) : RAcr w o1 (o2 ++ ys) v1 v' w' := by
  refine ⟨grown_kept (h.n1.alloc o) h4 (fun g hg e => h.ne g hg e), by simpa using h3, fun g hg hg2 => ?_, (h.hb.alloc h.hb.size o).grown h4 (by have := h.hb.size; simp; omega) (fun j hj => (h.n2.lt j hj).1)⟩
  rcases h5 with e | e
  · exact h.ne g hg (e ▸ hg2)
  · rw [e] at hg2
    have := (h.n1.lt g hg).2
    simp at hg2
    omega
theorem RAcr.drew {w : World} {o1 o2 : List Int} {v1 v2 : Value} {wr : World} (h : RAcr w o1 o2 v1 v2 wr) : RAcr w o1 o2 v1 v2 wr.drew := ⟨h.n1, h.n2, h.ne, h.hb.drew⟩

set_option maxRecDepth 100000 in
set_option maxHeartbeats 3200000 in
theorem rAcross_h (A : Option Addr) (n c : Nat) (l : List Four) (w : World) (h : Hid (Sl fourE w A n c l)) (hok : Hid (∀ r ∈ l, FourOk r)) (hn : n ≤ 1000) :
    Calls Try.prog 14 #[.slice A n c] w fun e w' => e = .returned (.tuple #[.int .i64 (cutI (acrossI l)), .int .i64 (cutI (downI l)), .bool (farI (acrossI l) || farI (downI l))]) ∧ Below w.heap.size w w' := by
  have hst : Hid (RAcr w (columnI (l.take 0) [3, 1]) (columnI (l.take 0) [0, 2]) (.slice none 0 0) (.slice none 0 0) w) := Lib.hid ⟨World.ownsRow_nil _ _ _ _, World.ownsRow_nil _ _ _ _, (fun g hg => by simp [Value.ownBlock] at hg), Below.refl _ _⟩
  go_enter Try.func14, Try.ntmps14
  go_wp2_with fail
  go_loopw [5, 6, 7] (fun v1 v2 i wr => ∃ k : Nat, k ≤ n ∧ i = .int .i64 k ∧ Hid (RAcr w (columnI (l.take k) [3, 1]) (columnI (l.take k) [0, 2]) v1 v2 wr)) (fun _ _ i _ => n - (intOf i).toNat)
  case atStart => exact ⟨0, Nat.zero_le _, rfl, hst⟩
  case round =>
    obtain ⟨k, hk, rfl, hinv⟩ := hrel
    by_cases hlt : k < n
    · obtain ⟨x, hx⟩ : ∃ x, l[k]? = some x := ⟨l[k]'(by rw [← h.out.len]; exact hlt), List.getElem?_eq_getElem _⟩
      obtain ⟨a, rfl, hab, c0, c1, c2, c3⟩ := (h.out.at_.keep hinv.out.hb).four hx
      have cell : ∀ v, Below w.heap.size w v → (v.cell? ⟨(a.add (k * 4)).block, (a.add (k * 4)).off + 3, none⟩ = some (.int .i64 x.d) ∧ v.cell? ⟨(a.add (k * 4)).block, (a.add (k * 4)).off + 1, none⟩ = some (.int .i64 x.b)) ∧ v.cell? (a.add (k * 4)) = some (.int .i64 x.a) ∧ v.cell? ⟨(a.add (k * 4)).block, (a.add (k * 4)).off + 2, none⟩ = some (.int .i64 x.c) := fun v hb => by
        obtain ⟨a', e, _, d0, d1, d2, d3⟩ := (h.out.at_.keep hb).four hx
        obtain rfl := Option.some.inj e
        exact ⟨⟨d3, d1⟩, d0, d2⟩
      have cell := Lib.hid cell
      have hx' := Lib.hid hx
      have hi1 : (0 : Int) ≤ (k : Int) := by omega
      have hi2 : (k : Int) < (n : Int) := by omega
      have hs1 : Hid (columnI (l.take (k + 1)) [3, 1] = columnI (l.take k) [3, 1] ++ [x.d, x.b]) := Lib.hid (columnI_succ hx)
      have hs2 : Hid (columnI (l.take (k + 1)) [0, 2] = columnI (l.take k) [0, 2] ++ [x.a, x.c]) := Lib.hid (columnI_succ hx)
      have hl1 : Hid ((columnI (l.take k) [3, 1]).length + 2 ≤ 100000000) := Lib.hid (by rw [columnI_len]; have : (l.take k).length ≤ k := List.length_take_le _ _; simp; omega)
      have hl2 : Hid ((columnI (l.take k) [0, 2]).length + 2 ≤ 100000000) := Lib.hid (by rw [columnI_len]; have : (l.take k).length ≤ k := List.length_take_le _ _; simp; omega)
      have hI := hinv.out
      clear hx hst hinv
      generalize columnI (l.take k) [3, 1] = o1 at *
      generalize columnI (l.take k) [0, 2] = o2 at *
      go_wp2_with fail
      have J := hI.drew
      have own1 := Lib.hid (J.n1.alloc (.cells ([x.d, x.b].flatMap intE).toArray 2))
      have hlit := Lib.hid (Holds.lit (f := intE) wr.drew [x.d, x.b] 2)
      have hbase : Hid (w.heap.size ≤ (wr.drew.alloc (.cells ([x.d, x.b].flatMap intE).toArray 2)).heap.size) := Lib.hid (by have := hI.hb.size; simp; omega)
      go_region_held3 (fun w' => w'.cell? ⟨(a.add (k * 4)).block, (a.add (k * 4)).off + 3, none⟩ = some (.int .i64 x.d) ∧ w'.cell? ⟨(a.add (k * 4)).block, (a.add (k * 4)).off + 1, none⟩ = some (.int .i64 x.b))
        (first | exact (cell.out _ J.hb).1 | exact (cell.out _ (J.hb.alloc J.hb.size _)).1 | exact (cell.out _ J1.hb).1 | (go_keep; done))
        ((refine step_append_row rfl (.tmp 18) (.tmp 29) 52 2 (by rfl) _ 8 Try.underlying52 infoInt rfl (by decide) (by decide) intE_len intE_one w.heap.size u5 o1.length o1 (by rfl) own1.out _ _ 2 2 [x.d, x.b] (by rfl) (fun h => by cases h) (Lib.hid rfl) hlit.out hl1.out hbase.out ?_; intro vJ1 wJ1 h3 h4 h5; have J1 := J.step1 _ h3 h4 h5; clear h3 h4 h5))
      clear own1 hlit hbase c0 c1 c2 c3
      obtain ⟨d0, d2⟩ := (cell.out _ J1.hb).2
      go_wp2_with fail
      have J := J1.drew
      have own2 := Lib.hid (J.n2.alloc (.cells ([x.a, x.c].flatMap intE).toArray 2))
      have hlit := Lib.hid (Holds.lit (f := intE) wJ1.drew [x.a, x.c] 2)
      have hbase : Hid (w.heap.size ≤ (wJ1.drew.alloc (.cells ([x.a, x.c].flatMap intE).toArray 2)).heap.size) := Lib.hid (by have := J1.hb.size; simp; omega)
      go_region_held3 (fun w' => w'.cell? (a.add (k * 4)) = some (.int .i64 x.a) ∧ w'.cell? ⟨(a.add (k * 4)).block, (a.add (k * 4)).off + 2, none⟩ = some (.int .i64 x.c))
        (first | exact (cell.out _ J.hb).2 | exact (cell.out _ (J.hb.alloc J.hb.size _)).2 | exact (cell.out _ J2.hb).2 | (go_keep; done))
        ((refine step_append_row rfl (.tmp 31) (.tmp 42) 52 2 (by rfl) _ 8 Try.underlying52 infoInt rfl (by decide) (by decide) intE_len intE_one w.heap.size u6 o2.length o2 (by rfl) own2.out _ _ 2 2 [x.a, x.c] (by rfl) (fun h => by cases h) (Lib.hid rfl) hlit.out hl2.out hbase.out ?_; intro vJ2 wJ2 h3 h4 h5; have J2 := J.step2 _ h3 h4 h5; clear h3 h4 h5))
      have hnx : Hid (RAcr w (columnI (l.take (k + 1)) [3, 1]) (columnI (l.take (k + 1)) [0, 2]) vJ1 vJ2 wJ2) := Lib.hid (by rw [hs1.out, hs2.out]; exact J2)
      go_wp2_with fail
      go_roundw
      case rel => exact ⟨k + 1, by omega, by go_num, hnx⟩
      case measure => simp [intOf]; omega
    · have hkn : k = n := by omega
      have hI := hinv.out
      rw [List.take_of_length_le (by rw [← h.out.len]; omega)] at hI
      obtain ⟨E1, e1, rfl, hE1, -⟩ := Sl.own hI.n1 intE_len (by omega)
      obtain ⟨E2, e2, rfl, hE2, -⟩ := Sl.own hI.n2 intE_len (by omega)
      have hl1 : (columnI l [3, 1]).length ≤ 20000 := by rw [columnI_len, ← h.out.len]; simp; omega
      have hl2 : (columnI l [0, 2]).length ≤ 20000 := by rw [columnI_len, ← h.out.len]; simp; omega
      have cs1 := refsum_any E1 e1 _ _ wr (hE1.at_.ints (column_ok hok.out)) (Lib.hid rfl) hl1
      rw [show (columnI l [3, 1]).sum = acrossI l from rfl] at cs1
      have cs1 := Lib.hid cs1
      have cs2 : Hid (∀ w2, Below wr.heap.size wr w2 → Calls Try.prog 29 #[.slice E2 (columnI l [0, 2]).length e2] w2 fun e w' => MadeCut w2 (downI l) e w') := Lib.hid (fun w2 hb2 => by
        have c := refsum_any E2 e2 _ _ w2 ((hE2.at_.below hb2).ints (column_ok hok.out)) (Lib.hid rfl) hl2
        rw [show (columnI l [0, 2]).sum = downI l from rfl] at c
        exact c)
      have hb := Lib.hid hI.hb
      have hk1 : ¬ k < n := hlt
      clear hinv hst hkn hI hE1 hE2 hl1 hl2
      generalize (columnI l [3, 1]).length = q1 at *
      generalize (columnI l [0, 2]).length = q2 at *
      go_wp2_with fail
      refine cs1.out.mono ?_; rintro e w4 ⟨rfl, hq4⟩
      have c2 := Lib.hid (cs2.out w4 hq4)
      have hb4 := Lib.hid (hb.out.trans (hq4.mono hb.out.size))
      clear cs1 cs2 hq4
      go_wp2_with fail
      refine c2.out.mono ?_; rintro e w5 ⟨rfl, hq5⟩
      have hb5 := Lib.hid (hb4.out.trans (hq5.mono hb4.out.size))
      clear c2 hq5
      rcases hF : farI (acrossI l) with _ | _
      all_goals
        have HF := Lib.hid hF
        go_wp2_with fail
        go_ret3
        exact ⟨by simp [HF.out], hb5.out⟩

theorem rSides_any (A : Option Addr) (n c : Nat) (l : List Four) (w : World) (h : Sl fourE w A n c l) (hok : ∀ r ∈ l, FourOk r) (hn : n ≤ 1000) :
    Calls Try.prog 12 #[.slice A n c] w fun e w' => e = .returned (.tuple #[.agg #[.int .i64 (cutI (sideI l 0)), .int .i64 (cutI (sideI l 1)), .int .i64 (cutI (sideI l 2)), .int .i64 (cutI (sideI l 3))], .bool (farI (sideI l 0) || farI (sideI l 1) || farI (sideI l 2) || farI (sideI l 3))]) ∧ Below w.heap.size w w' := rSides_h A n c l w (Lib.hid h) (Lib.hid hok) hn
theorem rAcross_any (A : Option Addr) (n c : Nat) (l : List Four) (w : World) (h : Sl fourE w A n c l) (hok : ∀ r ∈ l, FourOk r) (hn : n ≤ 1000) :
    Calls Try.prog 14 #[.slice A n c] w fun e w' => e = .returned (.tuple #[.int .i64 (cutI (acrossI l)), .int .i64 (cutI (downI l)), .bool (farI (acrossI l) || farI (downI l))]) ∧ Below w.heap.size w w' := rAcross_h A n c l w (Lib.hid h) (Lib.hid hok) hn
end Go.Proofs.Ytflehhepnmcdeaa
