/-
  Contract of package tree: Kids.
-/
import Derived.Test.YtcgblbbadbkdgaaRowInv
namespace Go.Proofs.Ytcgblbbadbkdgaa
open Go.RowKit
set_option linter.unusedVariables false

theorem kids_same {ns : List NodeV} {i k : Nat} (h : parI ns k ≠ (i : Int)) : kidsN ns i (k + 1) = kidsN ns i k := by
  unfold kidsN
  rw [List.range_succ, List.filter_append]
  simp [h]
theorem kids_more {ns : List NodeV} {i k : Nat} (h : parI ns k = (i : Int)) : kidsN ns i (k + 1) = kidsN ns i k ++ [(k : Int)] := by
  unfold kidsN
  rw [List.range_succ, List.filter_append]
  simp [h]
theorem kids_len (ns : List NodeV) (i k : Nat) : (kidsN ns i k).length ≤ k := by
  unfold kidsN
  rw [List.length_map]
  exact Nat.le_trans (List.length_filter_le _ _) (by simp)
theorem own_but {w w' : World} {base : Nat} {e : TypeId} {size n : Nat} {v : Value} {xs : List Value} {q : Nat} (h : w.ownsRow base e size v n xs) (hb : But [q] w w') (hne : v.ownBlock ≠ some q) : w'.ownsRow base e size v n xs :=
  h.kept (row := some q) ⟨hb.os, hb.tape, hb.output, hb.size, fun k hk hk2 => hb.block k hk (by intro hh; apply hk2; rw [List.mem_singleton.mp hh])⟩ (.inr hne)

/-- A row of rows of the call's own. -/
structure KidsInv (w0 : World) (g : Nat) (t : TreeV) (q : Nat) (vs : List Value) (ls : Nat → List Int) (wr : World) : Prop where
  box : TBox w0 g t wr
  row : Box wr q vs
  ge : w0.heap.size ≤ q
  ne : q ≠ g
  len : vs.length = t.nn
  own : ∀ (i : Nat) (v : Value), vs[i]? = some v → wr.ownsRow w0.heap.size 3 1 v (ls i).length ((ls i).flatMap intE)
  far : ∀ (i : Nat) (v : Value), vs[i]? = some v → v.ownBlock ≠ some g ∧ v.ownBlock ≠ some q
  apart : ∀ (i j : Nat) (v u : Value), i ≠ j → vs[i]? = some v → vs[j]? = some u → v.ownBlock = none ∨ v.ownBlock ≠ u.ownBlock
theorem KidsInv.below {w0 wr w' : World} {g q : Nat} {t : TreeV} {vs : List Value} {ls : Nat → List Int} (h : KidsInv w0 g t q vs ls wr) (hb : Below wr.heap.size wr w') : KidsInv w0 g t q vs ls w' :=
  ⟨h.box.below hb, h.row.below hb, h.ge, h.ne, h.len, fun i v hv => own_below (h.own i v hv) hb, h.far, h.apart⟩
theorem KidsInv.cong {w0 wr : World} {g q : Nat} {t : TreeV} {vs : List Value} {ls ms : Nat → List Int} (h : KidsInv w0 g t q vs ls wr) (e : ∀ i, ls i = ms i) : KidsInv w0 g t q vs ms wr := by
  rw [← funext e]; exact h
theorem KidsInv.start {w0 w : World} {g : Nat} {t : TreeV} (h : TBox w0 g t w) (e : TypeId) : KidsInv w0 g t w.heap.size (List.replicate t.nn (.slice none 0 0)) (fun i => kidsN t.ns i 0) (w.alloc (madeObj (.slice none 0 0) t.nn e)) := by
  have hb := (Below.refl w.heap.size w).alloc (Nat.le_refl _) (madeObj (.slice none 0 0) t.nn e)
  have hv : ∀ (i : Nat) (v : Value), (List.replicate t.nn (Value.slice none 0 0))[i]? = some v → v = .slice none 0 0 := fun i v hv => by
    have := List.mem_of_getElem? hv
    exact (List.mem_replicate.mp this).2
  refine ⟨h.below hb, ?_, h.hb.size, by have := h.box.lt; omega, by simp, fun i v hi => ?_, fun i v hi => ?_, fun i j v u _ hi _ => ?_⟩
  · have := Box.made w (z := .slice none 0 0) (x := ()) (f := fun _ => [Value.slice none 0 0]) (size := 1) rfl rfl t.nn e
    rw [Nat.mul_one] at this
    have e2 : (List.replicate t.nn ()).flatMap (fun _ => [Value.slice none 0 0]) = List.replicate t.nn (Value.slice none 0 0) := by
      generalize t.nn = n
      induction n with
      | zero => rfl
      | succ n ih => rw [List.replicate_succ, List.flatMap_cons, ih, List.replicate_succ]; rfl
    rw [← e2]; exact this
  · rw [hv i v hi]
    exact World.ownsRow_nil _ _ _ _
  · rw [hv i v hi]
    exact ⟨by simp [Value.ownBlock], by simp [Value.ownBlock]⟩
  · rw [hv i v hi]
    left; rfl
/-- A number joins the p-th row. -/
theorem KidsInv.put {w0 wr w' : World} {g q p k : Nat} {t : TreeV} {vs : List Value} {ls : Nat → List Int} {v v' : Value} (h : KidsInv w0 g t q vs ls wr) (hv : vs[p]? = some v) (o : Obj)
    (h3 : w'.ownsRow w0.heap.size 3 1 v' ((ls p).length + 1) ((ls p ++ [(k : Int)]).flatMap intE)) (h4 : (wr.alloc o).grownBy w' v.ownBlock) (h5 : v'.ownBlock = v.ownBlock ∨ v'.ownBlock = some (wr.alloc o).heap.size) :
    KidsInv w0 g t q (vs.set p v') (fun i => if i = p then ls p ++ [(k : Int)] else ls i) (w'.setCell ⟨q, p, none⟩ v') ∧ w'.cell? ⟨q, p, none⟩ = some v ∧ w'.frozen? ⟨q, p, none⟩ = false ∧ q < w'.heap.size := by
  have ha := (Below.refl wr.heap.size wr).alloc (Nat.le_refl _) o
  have hk := h.below ha
  have hbx := hk.box
  have hf := h.far p v hv
  have hpl : p < vs.length := (List.getElem?_eq_some_iff.mp hv).1
  have hrow := hk.row.grown h4 (Ne.symm hf.2)
  have hbelow := hbx.hb.grown h4 (by have := hbx.hb.size; omega) (fun j hj => ((h.own p v hv).lt j hj).1)
  have hlq := h.row.lt
  have hlg := h.box.box.lt
  have hv'f : v'.ownBlock ≠ some g ∧ v'.ownBlock ≠ some q := by
    rcases h5 with e | e
    · rw [e]; exact hf
    · rw [e]
      constructor <;> (intro e2; simp at e2; omega)
  have hbut : But [q] w' (w'.setCell ⟨q, p, none⟩ v') := (But.refl _ _).set q p (.inl (by simp)) _
  have hget : ∀ (i : Nat) (u : Value), (vs.set p v')[i]? = some u → (i = p ∧ u = v') ∨ (i ≠ p ∧ vs[i]? = some u) := fun i u hu => by
    by_cases e : i = p
    · subst e
      rw [List.getElem?_set_self hpl] at hu
      exact .inl ⟨rfl, (Option.some.inj hu).symm⟩
    · rw [List.getElem?_set_ne (Ne.symm e)] at hu
      exact .inr ⟨e, hu⟩
  have hap : ∀ (j : Nat) (u : Value), j ≠ p → vs[j]? = some u → u.ownBlock = none ∨ u.ownBlock ≠ v'.ownBlock := fun j u hj hu => by
    rcases h5 with e | e
    · rw [e]; exact h.apart j p u v hj hu hv
    · rw [e]
      cases hu2 : u.ownBlock with
      | none => exact .inl rfl
      | some b =>
        have := ((h.own j u hu).lt b hu2).2
        right
        intro e2
        simp at e2
        omega
  refine ⟨⟨⟨hbx.at0, (hbx.box.grown h4 (Ne.symm hf.1)).off h.ne _ _, hbelow.setCell h.ge _, hbx.ge⟩, ?_, h.ge, h.ne, by rw [List.length_set, h.len], fun i u hu => ?_, fun i u hu => ?_, fun i j u x hij hu hx => ?_⟩, hrow.cell p _ hv, hrow.free p hpl, hrow.lt⟩
  · exact hrow.set p v' hpl
  · rcases hget i u hu with ⟨rfl, rfl⟩ | ⟨e, hu⟩
    · simp only [if_pos]
      refine own_but (by simpa using h3) hbut hv'f.2
    · simp only [if_neg e]
      exact own_but ((hk.own i u hu).kept h4 (h.apart i p u v e hu hv)) hbut (h.far i u hu).2
  · rcases hget i u hu with ⟨rfl, rfl⟩ | ⟨e, hu⟩
    · exact hv'f
    · exact h.far i u hu
  · rcases hget i u hu with ⟨rfl, rfl⟩ | ⟨e, hu⟩
    · rcases hget j x hx with ⟨rfl, rfl⟩ | ⟨e, hx⟩
      · exact absurd rfl hij
      · rcases hap j x e hx with hh | hh
        · cases hb : u.ownBlock with
          | none => exact .inl rfl
          | some b => right; rw [hh]; simp
        · right; exact Ne.symm hh
    · rcases hget j x hx with ⟨e3, e4⟩ | ⟨e2, hx⟩
      · rw [e4]; exact hap i u e hu
      · exact h.apart i j u x hij hu hx
/-- What Kids answers. -/
def MadeKids (w : World) (n : Nat) (K : Nat → List Int) (e : Ending) (w' : World) : Prop :=
  ∃ q vs, e = .returned (.slice (some ⟨q, 0, none⟩) n n) ∧ Box w' q vs ∧ vs.length = n ∧ (∀ i, i < n → ∃ A c, vs[i]? = some (.slice A (K i).length c) ∧ Sl intE w' A (K i).length c (K i)) ∧ w.heap.size ≤ q ∧ Below w.heap.size w w'
theorem KidsInv.made {w0 wr : World} {g q : Nat} {t : TreeV} {vs : List Value} {ls : Nat → List Int} (h : KidsInv w0 g t q vs ls wr) : MadeKids w0 t.nn ls (.returned (.slice (some ⟨q, 0, none⟩) t.nn t.nn)) wr := by
  refine ⟨q, vs, rfl, h.row, h.len, fun i hi => ?_, h.ge, h.box.hb⟩
  have hl : i < vs.length := by rw [h.len]; exact hi
  have hv := List.getElem?_eq_getElem hl
  obtain ⟨A, c, e, hS, _⟩ := Sl.own (h.own i _ hv) intE_len (by omega)
  exact ⟨A, c, by rw [hv, e], hS⟩

theorem infoIs : (Try.prog.info? 45).map (fun i => (i.zero, i.size, i.bytes)) = some (some (.slice none 0 0), 1, 24) := by kernel_rfl
set_option maxRecDepth 100000 in
set_option maxHeartbeats 1600000 in
theorem kids_h (t : TreeV) (w : World) (h : Hid (TreeAt w t)) (hn : t.nn ≤ 100000) :
    Calls Try.prog 21 #[.agg #[.slice t.na t.nn t.nc, .slice t.aa t.an t.ac, .int .i64 t.view]] w fun e w' => MadeKids w t.nn (fun i => kidsN t.ns i t.nn) e w' := by
  have hmk := fun W => make_row (P := Try.prog) 42 45 (.slice none 0 0) 1 24 Try.underlying42 infoIs (by decide) t.nn t.nn (t.nn : Int) (t.nn : Int) rfl rfl (Nat.le_refl _) (by omega) W
  rw [Nat.mul_one] at hmk
  have kp := fun i w h hi => parent_h t i w h hi hn
  go_enter Try.func21, Try.ntmps21
  go_upto_region 1 with fail
  generalize hW : World.alloc w _ = V
  have hT := TBox.start h.out hW
  obtain ⟨g, hg⟩ : ∃ g, g = w.heap.size := ⟨_, rfl⟩
  rw [← hg] at hT ⊢
  clear hW hg
  obtain ⟨k0, k1, k2⟩ := hT.cells
  have hst := Lib.hid (KidsInv.start hT 45)
  clear hT
  go_wp2_with fail
  generalize hW : World.alloc V _ = V2 at *
  obtain ⟨q, hq⟩ : ∃ q, q = V.heap.size := ⟨_, rfl⟩
  rw [← hq] at hst ⊢
  clear hW hq k0 k1 k2 hmk
  go_loopw [12] (fun i wr => ∃ k : Nat, k ≤ t.nn ∧ i = .int .i64 k ∧ ∃ vs, Hid (KidsInv w g t q vs (fun i => kidsN t.ns i k) wr)) (fun i _ => t.nn - (intOf i).toNat)
  case atStart => exact ⟨0, Nat.zero_le _, rfl, _, hst⟩
  case round =>
    clear hst
    obtain ⟨k, hk, rfl, vs, hR⟩ := hrel
    by_cases hlt : k < t.nn
    case neg =>
      have e : k = t.nn := by omega
      have hlt' : ¬ (k : Int) < (t.nn : Int) := by omega
      rw [e] at hR
      replace e := Lib.hid e
      go_wp2_with fail
      go_ret
      exact hR.out.made
    have i1 : (0 : Int) ≤ (k : Int) := by omega
    have i2 : (k : Int) < (t.nn : Int) := by omega
    obtain ⟨k0, k1, k2⟩ := hR.out.box.cells
    have kk := kp k wr (Lib.hid hR.out.box.at_) hlt
    rcases parI_cases t.ns k with hp | ⟨p, hp, hpk⟩
    · rw [hp] at kk
      go_wp2_with (go_at_call 43; refine kk.mono ?_; rintro e w1 ⟨rfl, hb1⟩; replace hb1 := Lib.hid (hR.out.below hb1))
      go_roundw
      case rel => exact ⟨k + 1, by omega, by go_num, vs, Lib.hid (hb1.out.cong fun i => (kids_same (by rw [hp]; omega)).symm)⟩
      case measure => simp [intOf]; omega
    · rw [hp] at kk
      go_upto_region 7 with (go_at_call 43; refine kk.mono ?_; rintro e w1 ⟨rfl, hb1⟩)
      have hR3 := hR.out.below hb1
      have hpl : p < vs.length := by rw [hR3.len]; omega
      obtain ⟨v, hv⟩ : ∃ v, vs[p]? = some v := ⟨_, List.getElem?_eq_getElem hpl⟩
      have cp : w1.cell? ⟨q, p, none⟩ = some v := hR3.row.cell p _ hv
      have hqlt := hR3.row.lt
      have p1 : (0 : Int) ≤ (p : Int) := by omega
      have p2 : (p : Int) < (t.nn : Int) := by omega
      have hpn : ((p : Int) != -1) = true := by first | (simp; done) | (simp; omega)
      have hput := Lib.hid (fun L v' w' h3 h4 h5 => KidsInv.put (k := k) (v' := v') (w' := w') hR3 hv L h3 h4 h5)
      have hown := Lib.hid ((hR3.own p v hv).alloc (.cells ([(k : Int)].flatMap intE).toArray 3))
      have hlit := Lib.hid (Holds.lit (f := intE) w1 [(k : Int)] 3)
      have hbase : Hid (w.heap.size ≤ (w1.alloc (.cells ([(k : Int)].flatMap intE).toArray 3)).heap.size) := Lib.hid (by have := hR3.box.hb.size; simp; omega)
      have hkl : Hid ((kidsN t.ns p k).length + 1 ≤ 100000000) := Lib.hid (by have := kids_len t.ns p k; omega)
      have hrl : Hid (∀ i, (if i = p then kidsN t.ns p k ++ [(k : Int)] else kidsN t.ns i k) = kidsN t.ns i (k + 1)) := Lib.hid (fun i => by
        by_cases e : i = p
        · subst e; rw [if_pos rfl, kids_more hp]
        · rw [if_neg e, kids_same (by rw [hp]; omega)])
      clear kk hb1 hR3 k0 k1 k2 hpl hv hR
      obtain ⟨lp, hlp⟩ : ∃ lp, kidsN t.ns p k = lp := ⟨_, rfl⟩
      rw [hlp] at hput hkl hown
      go_wp2_with (at_builtin; refine append_row (f := intE) rfl (.tmp 25) (.tmp 27) 45 3 rfl _ 8 Try.underlying45 infoI rfl (by decide) (by decide) intE_len intE_one w.heap.size v lp.length lp rfl hown.out _ _ 1 1 [(k : Int)] rfl (fun h => by cases h) (Lib.hid rfl) hlit.out hkl.out hbase.out ?_; intro v' w' h3 h4 h5; obtain ⟨A2, c2, rfl, -, -⟩ := Sl.own h3 intE_len (by omega); obtain ⟨hnx, cq, fq, lq⟩ := hput.out _ _ w' h3 h4 h5; replace hnx := Lib.hid hnx; clear h3 h4 h5)
      go_roundw
      case rel => exact ⟨k + 1, by omega, by go_num, _, Lib.hid (hnx.out.cong (by rw [← hlp]; exact hrl.out))⟩
      case measure => simp [intOf]; omega
end Go.Proofs.Ytcgblbbadbkdgaa
