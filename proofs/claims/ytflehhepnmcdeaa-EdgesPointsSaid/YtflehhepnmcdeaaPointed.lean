/-
  Contract of package edges: pointed: those of a list of rectangles that have points.
-/
import Derived.Test.YtflehhepnmcdeaaGrow
import Derived.Test.YtflehhepnmcdeaaHolds
namespace Go.Proofs.Ytflehhepnmcdeaa
open Go.RowKit

def somePts (r : Four) : Bool := pointsB r.c r.d
theorem infoRect : (Try.prog.info? 33).map (fun i => (i.zero, i.size, i.bytes)) = some (some (.agg #[.int .i64 0, .int .i64 0, .int .i64 0, .int .i64 0]), 4, 32) := by kernel_rfl

/-- What the loop keeps: those so far that have points. -/
def PtInv (w0 : World) (l : List Four) (k : Nat) (v : Value) (wr : World) : Prop :=
  ∃ out : List Four, out = (l.take k).filter somePts ∧ wr.ownsRow w0.heap.size 33 4 v out.length (out.flatMap fourE) ∧ Below w0.heap.size w0 wr

theorem ptinv_start (w : World) (l : List Four) : PtInv w l 0 (.slice none 0 0) w := ⟨[], by simp, World.ownsRow_nil _ _ _ _, Below.refl _ _⟩

theorem ptinv_no {w0 wr w2 : World} {l out : List Four} {k : Nat} {v : Value} {x : Four} (ho : out = (l.take k).filter somePts) (hx : l[k]? = some x) (hown : wr.ownsRow w0.heap.size 33 4 v out.length (out.flatMap fourE))
    (hb : Below w0.heap.size w0 wr) (hb2 : Below wr.heap.size wr w2) (hp : pointsB x.c x.d = false) : PtInv w0 l (k + 1) v w2 := by
  refine ⟨out, ?_, own_below hown hb2, hb.trans (hb2.mono hb.size)⟩
  rw [ho, List.take_add_one, hx]
  simp [somePts, hp]

theorem ptinv_yes {w0 wr w2 w' : World} {l out : List Four} {k : Nat} {v v' : Value} {x : Four} (ho : out = (l.take k).filter somePts) (hx : l[k]? = some x) (hown : wr.ownsRow w0.heap.size 33 4 v out.length (out.flatMap fourE))
    (hb : Below w0.heap.size w0 wr) (hb2 : Below wr.heap.size wr w2) (hp : pointsB x.c x.d = true) (o : Obj) (h1 : w'.ownsRow w0.heap.size 33 4 v' (out.length + 1) ((out ++ [x]).flatMap fourE)) (h2 : (w2.alloc o).grownBy w' v.ownBlock) :
    PtInv w0 l (k + 1) v' w' := by
  refine ⟨out ++ [x], ?_, by simpa using h1, ?_⟩
  · rw [ho, List.take_add_one, hx]
    simp [somePts, hp]
  · have h3 := hb.trans (hb2.mono hb.size)
    exact (h3.alloc h3.size o).grown h2 (by have := h3.size; simp; omega) (fun j hj => (hown.lt j hj).1)

set_option maxRecDepth 100000 in
set_option maxHeartbeats 800000 in
theorem pointed_h (A : Option Addr) (n c : Nat) (l : List Four) (w : World) (h : Hid (Sl fourE w A n c l)) (hn : n ≤ 100000) :
    Calls Try.prog 40 #[.slice A n c] w fun e w' => MadeSl fourE w (l.filter somePts) e w' := by
  have hst := Lib.hid (ptinv_start w l)
  go_enter Try.func40, Try.ntmps40
  go_wp2_with fail
  go_loopw [3, 8] (fun v i wr => ∃ k : Nat, k ≤ n ∧ i = .int .i64 k ∧ Hid (PtInv w l k v wr)) (fun _ i _ => n - (intOf i).toNat)
  case atStart => exact ⟨0, Nat.zero_le _, rfl, hst⟩
  case round =>
    obtain ⟨k, hk, rfl, hinv⟩ := hrel
    by_cases hlt : k < n
    · obtain ⟨x, hx⟩ : ∃ x, l[k]? = some x := ⟨l[k]'(by rw [← h.out.len]; exact hlt), List.getElem?_eq_getElem _⟩
      obtain ⟨out, ho, hown, hb⟩ := hinv.out
      obtain ⟨a, rfl, hab, c0, c1, c2, c3⟩ := (h.out.at_.keep hb).four hx
      have hi1 : (0 : Int) ≤ (k : Int) := by omega
      have hi2 : (k : Int) < (n : Int) := by omega
      have ho' := Lib.hid ho
      have hx' := Lib.hid hx
      have hown' := Lib.hid hown
      clear hinv ho hx hown
      go_wp2_with fail
      generalize hW : World.alloc wr _ = W1
      obtain ⟨b1, hq1⟩ : Box W1 wr.heap.size (fourE x) ∧ Below wr.heap.size wr W1 := by
        subst hW
        exact ⟨Box.new wr (fourE x) _, (Below.refl _ _).alloc (Nat.le_refl _) _⟩
      clear hW
      refine (points_any _ _ _ _ _).mono ?_; rintro e w2 ⟨rfl, hq2⟩
      have b2 := b1.below hq2.1
      have hb2 := Lib.hid (hq1.trans (hq2.1.mono hq1.size))
      clear b1 hq1 hq2 c0 c1 c2 c3
      have c := b2.four
      rcases hp : pointsB x.c x.d with _ | _
      · have hnx : Hid (PtInv w l (k + 1) u3 w2) := Lib.hid (ptinv_no ho'.out hx'.out hown'.out hb hb2.out hp)
        clear hp
        go_wp2_with fail
        go_roundw
        case rel => exact ⟨k + 1, by omega, by go_num, hnx⟩
        case measure => simp [intOf]; omega
      · have hlit := Lib.hid (Holds.lit (f := fourE) w2 [x] 33)
        have hbs := b2.lt
        have hown2 := Lib.hid ((own_below hown'.out hb2.out).alloc (.cells ([x].flatMap fourE).toArray 33))
        have hnx := Lib.hid (fun v' w' h1 h2 => ptinv_yes (v := u3) (v' := v') (w' := w') ho'.out hx'.out hown'.out hb hb2.out hp (Obj.cells ([x].flatMap fourE).toArray 33) h1 h2)
        have hlen : out.length ≤ k := by rw [ho'.out]; exact Nat.le_trans (List.length_filter_le _ _) (List.length_take_le _ _)
        have hbase : Hid (w.heap.size ≤ (w2.alloc (.cells ([x].flatMap fourE).toArray 33)).heap.size) := Lib.hid (by have := hb.size; have := hb2.out.size; simp; omega)
        clear hp
        go_wp2_with (at_builtin; refine append_row rfl (.tmp 14) (.tmp 16) 38 33 rfl _ 32 Try.underlying38 infoRect rfl (by decide) (by decide) fourE_len fourE_one w.heap.size u3 out.length out rfl hown2.out _ _ 1 1 [x] rfl (fun h => by cases h) (Lib.hid rfl) hlit.out (by omega) hbase.out ?_; intro v' w' h3 h4 h5; have hnx := Lib.hid (hnx.out v' w' h3 h4); clear h3 h4 h5)
        go_roundw
        case rel => exact ⟨k + 1, by omega, by go_num, hnx⟩
        case measure => simp [intOf]; omega
    · have hkn : k = n := by omega
      have hfin : Hid (∃ (E : Option Addr) (c' : Nat), u3 = .slice E (l.filter somePts).length c' ∧ MadeSl fourE w (l.filter somePts) (.returned (.slice E (l.filter somePts).length c')) wr) := by
        obtain ⟨out, ho, hown, hb⟩ := hinv.out
        rw [List.take_of_length_le (by rw [← h.out.len]; omega)] at ho
        subst ho
        obtain ⟨E, c', rfl, hS, hN⟩ := Sl.own hown fourE_len (by omega)
        exact Lib.hid ⟨E, c', rfl, E, c', rfl, hS, hb, hN⟩
      obtain ⟨E, c', rfl, hM⟩ := hfin.out
      have hM := Lib.hid hM
      clear hfin hinv hkn
      generalize (l.filter somePts).length = q at *
      go_wp2_with fail
      go_ret
      exact hM.out

theorem pointed_any (A : Option Addr) (n c : Nat) (l : List Four) (w : World) (h : Sl fourE w A n c l) (hn : n ≤ 100000) :
    Calls Try.prog 40 #[.slice A n c] w fun e w' => MadeSl fourE w (l.filter somePts) e w' := pointed_h A n c l w (Lib.hid h) hn
end Go.Proofs.Ytflehhepnmcdeaa
