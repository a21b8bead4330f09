/-
  Contract of the document's Same of a tree's copy and the tree.
-/
import Derived.Test.YtcgblbbadbkdgaaAlike
import Derived.Test.YtcgblbbadbkdgaaNodeLaw
import Derived.Test.YtcgblbbadbkdgaaLater
import Derived.Deep.DeepCutAuto
namespace Go.Proofs.Ytcgblbbadbkdgaa
open Go.RowKit
set_option linter.unusedVariables false

theorem wpQuiet_load_styO {C : World → Prop} {ops : Array Oper} {rest : List Oper} {o : Oper} {a : Act} {Q : Act → Prop} (hw : Region.wanted o (yielded ops a.tmps) = true) (x : Operand) (ho : o.op = .load 28 x)
    (g f : Nat) (hx : a.eval x = .pointer (some ⟨g, f, none⟩)) (s : Style) (L : Array Value) (hL : Hid ((styE s).toArray = L)) (hA : Hid (∀ w, C w → AtO w g f s)) (h : wpQuiet Try.prog ops C Q rest (a.put o.dst (.agg L))) : wpQuiet Try.prog ops C Q (o :: rest) a :=
  wpQuiet_step fun K hK => by
    rw [if_pos hw]
    refine ⟨.agg L, fun w hw' => ?_, hK _ h⟩
    have hl : (loadVar 28 ⟨g, f, none⟩).run Try.prog w = .ok (.agg (styE s).toArray) w :=
      Go.run_loadVar_mid w g f 28 (styE s) _ (fun j v hv => (hA.out w hw').2 j v hv) Try.underlying28 rfl (by rw [styE_len]; kernel_rfl)
    unfold Oper.quietAt execOp
    simp only [ho, hx, Instr.loadAt, Instr.sureAddr, Sem.run_bind, Sem.run_pure, Result.andThen_ok, hl]
    rw [hL.out]
    exact ⟨rfl, rfl⟩

/-- What Same's loops keep: both trees, boxed. -/
structure TwoT (w0 : World) (g h : Nat) (t u : TreeV) (w : World) : Prop where
  b1 : Box w g (treeE t)
  b2 : Box w h (treeE u)
  hb : Below w0.heap.size w0 w
theorem TwoT.below {w0 w w' : World} {g h : Nat} {t u : TreeV} (k : TwoT w0 g h t u w) (hb : Below w.heap.size w w') : TwoT w0 g h t u w' := ⟨k.b1.below hb, k.b2.below hb, k.hb.trans (hb.mono k.hb.size)⟩

set_option maxRecDepth 100000 in
set_option maxHeartbeats 3200000 in
theorem same5_h (t u : TreeV) (w0 w : World) (ht : Hid (TreeAt w t)) (hu : Hid (TreeAt w u)) (hb0 : Hid (Below w0.heap.size w0 w)) (hc : Hid (CopyOf w0 w t.ns u.ns)) (e1 : u.nn = t.nn) (e2 : u.an = t.an) (e3 : u.av = t.av) (e4 : u.view = t.view) (hn : t.nn ≤ 100000) (hm : t.an ≤ 100000) (hun : Hid (∀ x ∈ t.ns, x.s.un ≤ 200000)) :
    Calls Try.prog 20 #[.agg #[.slice u.na u.nn u.nc, .slice u.aa u.an u.ac, .int .i64 u.view], .agg #[.slice t.na t.nn t.nc, .slice t.aa t.an t.ac, .int .i64 t.view]] w fun e w' => e = .returned (.bool true) ∧ Below w.heap.size w w' := by
  rw [e1, e2, e4]
  have hln := Lib.hid ht.out.nodes.len
  have hlm := Lib.hid ht.out.advs.len
  go_enter Try.func20, Try.ntmps20
  go_upto_region 1 with fail
  have hT : TwoT w w.heap.size (w.heap.size + 1) u t ((w.alloc (.cells #[.slice u.na t.nn u.nc, .slice u.aa t.an u.ac, .int .i64 t.view] 35)).alloc (.cells #[.slice t.na t.nn t.nc, .slice t.aa t.an t.ac, .int .i64 t.view] 35)) := by
    have h1 := Box.new w (treeE u) 35
    have h2 := Box.new (w.alloc (.cells #[.slice u.na t.nn u.nc, .slice u.aa t.an u.ac, .int .i64 t.view] 35)) (treeE t) 35
    have e : (w.alloc (.cells #[.slice u.na t.nn u.nc, .slice u.aa t.an u.ac, .int .i64 t.view] 35)).heap.size = w.heap.size + 1 := by simp
    rw [e] at h2
    unfold treeE at h1 h2
    rw [e1, e2, e4] at h1
    refine ⟨?_, ?_, ((Below.refl _ _).alloc (Nat.le_refl _) _).alloc (by simp) _⟩
    · unfold treeE
      rw [e1, e2, e4]
      exact h1.alloc _
    · unfold treeE
      exact h2
  generalize hW : World.alloc (World.alloc w _) _ = V at *
  obtain ⟨g, hg⟩ : ∃ g, g = w.heap.size := ⟨_, rfl⟩
  obtain ⟨h, hh⟩ : ∃ h, h = w.heap.size + 1 := ⟨_, rfl⟩
  rw [← hh, ← hg] at hT ⊢
  clear hW hg hh
  have g0 : V.cell? ⟨g, 0, none⟩ = some (.slice u.na t.nn u.nc) := by rw [← e1]; exact hT.b1.cell 0 _ rfl
  have g1 : V.cell? ⟨g, 1, none⟩ = some (.slice u.aa t.an u.ac) := by rw [← e2]; exact hT.b1.cell 1 _ rfl
  have g2 : V.cell? ⟨g, 2, none⟩ = some (.int .i64 t.view) := by rw [← e4]; exact hT.b1.cell 2 _ rfl
  have h0 := hT.b2.cell 0 _ rfl
  have h1 := hT.b2.cell 1 _ rfl
  have h2 := hT.b2.cell 2 _ rfl
  replace hT := Lib.hid hT
  replace e1 := Lib.hid e1
  replace e2 := Lib.hid e2
  replace e3 := Lib.hid e3
  replace e4 := Lib.hid e4
  go_wp2_with fail
  go_loopw [5] (fun i wr => ∃ k : Nat, k ≤ t.an ∧ i = .int .i64 k ∧ Hid (TwoT w g h u t wr)) (fun i _ => t.an - (intOf i).toNat)
  case atStart => exact ⟨0, Nat.zero_le _, rfl, hT⟩
  case round =>
    clear g0 g1 g2 h0 h1 h2 hT
    obtain ⟨k, hk, rfl, hT⟩ := hrel
    have g0 : wr.cell? ⟨g, 0, none⟩ = some (.slice u.na t.nn u.nc) := by rw [← e1.out]; exact hT.out.b1.cell 0 _ rfl
    have g1 : wr.cell? ⟨g, 1, none⟩ = some (.slice u.aa t.an u.ac) := by rw [← e2.out]; exact hT.out.b1.cell 1 _ rfl
    have h0 := hT.out.b2.cell 0 _ rfl
    have h1 := hT.out.b2.cell 1 _ rfl
    by_cases hlt : k < t.an
    · have hlt' : (k : Int) < (t.an : Int) := by omega
      have k1 : (0 : Int) ≤ (k : Int) := by omega
      obtain ⟨x, hx⟩ : ∃ x, t.av[k]? = some x := ⟨_, List.getElem?_eq_getElem (by rw [← hlm.out]; exact hlt)⟩
      obtain ⟨a, ha, hab, ca⟩ := (ht.out.below hT.out.hb).advs.at_.int hx
      obtain ⟨b, hb, hbb, cb⟩ := (hu.out.below hT.out.hb).advs.at_.int (show u.av[k]? = some x by rw [e3.out]; exact hx)
      rw [ha] at h1
      rw [hb] at g1
      have hbq := bl_drewN (Below.refl wr.heap.size wr)
      clear hx ha hb g0 h0
      go_upto_region 6 with fail
      go_quiet (fail)
      have hT2 := Lib.hid (hT.out.below (hbq nq))
      clear hbq
      go_wp2_with fail
      go_roundw
      case rel => exact ⟨k + 1, by omega, by go_num, hT2⟩
      case measure => simp [intOf]; omega
    · have e : k = t.an := by omega
      have hlt' : ¬ (k : Int) < (t.an : Int) := by omega
      replace e := Lib.hid e
      go_wp2_with fail
      go_loopw [6] (fun i wr => ∃ k : Nat, k ≤ t.nn ∧ i = .int .i64 k ∧ Hid (TwoT w g h u t wr)) (fun i _ => t.nn - (intOf i).toNat)
      case atStart => exact ⟨0, Nat.zero_le _, rfl, hT⟩
      case round =>
        clear g0 g1 h0 h1 hT
        obtain ⟨k, hk, rfl, hT⟩ := hrel
        have g0 : wr.cell? ⟨g, 0, none⟩ = some (.slice u.na t.nn u.nc) := by rw [← e1.out]; exact hT.out.b1.cell 0 _ rfl
        have h0 := hT.out.b2.cell 0 _ rfl
        have glt := hT.out.b1.lt
        have hltb := hT.out.b2.lt
        by_cases hlt : k < t.nn
        · have hlt' : (k : Int) < (t.nn : Int) := by omega
          have k1 : (0 : Int) ≤ (k : Int) := by omega
          have hul : k < u.ns.length := by rw [hc.out.len, ← hln.out]; exact hlt
          obtain ⟨x, A, c, l, hx, hy, hS1, hS2⟩ := hc.out.twin k _ (List.getElem?_eq_getElem hul)
          have hyx := List.getElem?_eq_getElem hul
          rw [hy] at hyx
          have hxs := hun.out x (List.mem_of_getElem? hx)
          obtain ⟨a, ha, hab, ca, aa⟩ := (ht.out.below hT.out.hb).nodes.at_.node (Nat.le_refl _) hx
          obtain ⟨b, hb, hbb, cb, ab⟩ := (hu.out.below hT.out.hb).nodes.at_.node (Nat.le_refl _) hyx
          rw [ha] at h0
          rw [hb] at g0
          have c1 : ∀ y : Later wr, y.w.cell? (b.add (k * 44)) = some (.int .i64 x.p) := Later.cell (by rw [add_block]; exact hbb) cb
          have c2 : ∀ y : Later wr, y.w.cell? (a.add (k * 44)) = some (.int .i64 x.p) := Later.cell (by rw [add_block]; exact hab) ca
          have q0 : ∀ y : Later wr, y.w.cell? ⟨g, 0, none⟩ = some (.slice (some b) t.nn u.nc) := Later.cell glt g0
          have p0 : ∀ y : Later wr, y.w.cell? ⟨h, 0, none⟩ = some (.slice (some a) t.nn t.nc) := Later.cell hltb h0
          obtain ⟨L1, hL1⟩ : ∃ L, (styE (x.s.moved A c)).toArray = L := ⟨_, rfl⟩
          obtain ⟨L2, hL2⟩ : ∃ L, (styE x.s).toArray = L := ⟨_, rfl⟩
          have m1 : ∀ y : Later wr, Hid (Calls Try.prog 14 #[.agg L1, .agg L2] y.w fun e w' => e = .returned (.bool true) ∧ Below y.w.heap.size y.w w') := fun y => Lib.hid (by
            have hbw := hT.out.hb.trans (y.h.mono hT.out.hb.size)
            have h := same_any x.s A c l y.w (Lib.hid (hS1.below hbw)) (Lib.hid (hS2.below (hb0.out.trans (hbw.mono hb0.out.size)))) hxs
            unfold styV at h
            rw [hL1, hL2] at h
            exact h)
          have as1 : Hid (∀ w', (∃ y : Later wr, w' = y.w) → AtO w' (b.add (k * 44)).block ((b.add (k * 44)).off + 1) (x.s.moved A c)) := Lib.hid (by rintro w' ⟨y, rfl⟩; exact ab.below y.h)
          have as2 : Hid (∀ w', (∃ y : Later wr, w' = y.w) → AtO w' (a.add (k * 44)).block ((a.add (k * 44)).off + 1) x.s) := Lib.hid (by rintro w' ⟨y, rfl⟩; exact aa.below y.h)
          replace hL1 := Lib.hid hL1
          replace hL2 := Lib.hid hL2
          go_upto_region 11 with fail
          clear hx hy hyx hS1 hS2 ha hb ca cb aa ab g0 h0 hul
          refine wp_region_later wr (by kernel_rfl) (by kernel_rfl) (Below.refl _ _) ?_
          repeat (first | (refine wpQuiet_load_styO (by rfl) _ rfl (b.add (k * 44)).block ((b.add (k * 44)).off + 1) rfl (x.s.moved A c) L1 hL1 as1 ?_) | (refine wpQuiet_load_styO (by rfl) _ rfl (a.add (k * 44)).block ((a.add (k * 44)).off + 1) rfl x.s L2 hL2 as2 ?_) | (quiet_step ((go_at_call 14; (with_reducible exact Later.call _ (m1 _).out)))))
          refine wpQuiet_nil ?_
          rintro _ ⟨⟨wq, hbq⟩, rfl⟩
          have hT2 := Lib.hid (hT.out.below hbq)
          clear m1 as1 as2 c1 c2 q0 p0 hbq
          go_wp2_with fail
          go_roundw
          case rel => exact ⟨k + 1, by omega, by go_num, hT2⟩
          case measure => simp [intOf]; omega
        · have hlt' : ¬ (k : Int) < (t.nn : Int) := by omega
          go_wp2_with fail
          go_ret
          exact ⟨rfl, hT.out.hb⟩
end Go.Proofs.Ytcgblbbadbkdgaa
