/-
  Contract of the document's Extent.
-/
import Derived.Test.YtnmfcbmdopmglaaExtent
import Derived.Deep.RegionHeld3
namespace Go.Proofs.Ytnmfcbmdopmglaa
open Go.RowKit
set_option linter.unusedVariables false

theorem subs_drop (l : List Wrd) (a b : Nat) : subs l ⟨a, b⟩ = (l.drop a).take (b - a) := by unfold subs; rw [List.drop_take]
theorem rowI_sub1 {l : List Wrd} {k : Nat} {x : Wrd} (h : l[k]? = some x) : rowI (subs l ⟨k, k + 1⟩) = [x.w] := by
  rw [subs_drop, show k + 1 - k = 0 + 1 by omega, rowI_first (x := x) (by rw [List.getElem?_drop]; exact h)]
  rfl
theorem rowI_sub2 {l : List Wrd} {k j : Nat} {x : Wrd} (hk : k < j) (h : l[j]? = some x) : rowI (subs l ⟨k, j + 1⟩) = rowI (subs l ⟨k, j⟩) ++ [x.w, x.g] := by
  rw [subs_drop, subs_drop, show j + 1 - k = (j - k) + 1 by omega, rowI_next (x := x) (by omega) (by rw [List.getElem?_drop, show k + (j - k) = j by omega]; exact h)]
  simp

structure REInv (l : List Wrd) (k z : Nat) (rs : List Rg) : Prop where
  chn : Rws l 0 rs z
  pos : (k = 0 ∧ z = 0) ∨ (0 < k ∧ k ≤ z ∧ z ≤ l.length ∧ (∀ i, k ≤ i → i < z → joinB l i = true) ∧ joinB l z = false)
theorem REInv.start (l : List Wrd) : REInv l 0 0 [] := ⟨rfl, .inl ⟨rfl, rfl⟩⟩
theorem REInv.stay {l : List Wrd} {k z : Nat} {rs : List Rg} (h : REInv l k z rs) (h0 : 0 < k) (hj : joinB l k = true) : REInv l (k + 1) z rs := by
  rcases h.pos with h1 | ⟨h1, h2, h3, h4, h5⟩
  · omega
  · have : k ≠ z := fun e => by subst e; rw [hj] at h5; cases h5
    exact ⟨h.chn, .inr ⟨by omega, by omega, h3, fun i h6 h7 => h4 i (by omega) h7, h5⟩⟩
theorem REInv.here {l : List Wrd} {k z : Nat} {rs : List Rg} (h : REInv l k z rs) (hj : k = 0 ∨ joinB l k = false) : z = k := by
  rcases h.pos with h1 | ⟨h1, h2, h3, h4, h5⟩
  · omega
  · rcases hj with hj | hj
    · omega
    · rcases Nat.lt_or_ge k z with h6 | h6
      · have := h4 k (Nat.le_refl _) h6; rw [hj] at this; cases this
      · omega
theorem REInv.next {l : List Wrd} {k t : Nat} {rs : List Rg} (h : REInv l k k rs) (ht : k < t) (htl : t ≤ l.length) (ha : ∀ i, k < i → i < t → joinB l i = true) (he : joinB l t = false) : REInv l (k + 1) t (rs ++ [⟨k, t⟩]) :=
  ⟨rws_snoc rs 0 k ⟨k, t⟩ h.chn ⟨rfl, ht, htl, ha, he⟩, .inr ⟨by omega, by omega, htl, fun i h1 h2 => ha i (by omega) h2, he⟩⟩
theorem REInv.fin {l : List Wrd} {z : Nat} {rs : List Rg} (h : REInv l l.length z rs) : RWhl l rs := by
  rcases h.pos with h1 | ⟨h1, h2, h3, h4, h5⟩
  · exact RWhl.of h.chn (by omega)
  · exact RWhl.of h.chn (by omega)

set_option maxRecDepth 100000 in
set_option maxHeartbeats 4000000 in
theorem rextent_h (R : Option Addr) (n c : Nat) (ws : List Wrd) (w : World) (hR : Hid (Sl wrdE w R n c ws)) (hw : Hid (∀ x ∈ ws, WrdOk x)) (hn : n ≤ 9000) (rs : List Rg) (hrs : Hid (RWhl ws rs)) :
    Calls Try.prog 26 #[.slice R n c] w fun e w' => e = .returned (.tuple #[.int .i64 (lst ws), .int .i64 (grt ws rs), .bool (farE ws rs)]) ∧ Below w.heap.size w w' := by
  go_enter Try.func26, Try.ntmps26
  go_wp2_with fail
  go_loopw [5, 6, 7, 8] (fun m g f i wr => ∃ (k z : Nat) (qs : List Rg), k ≤ n ∧ i = .int .i64 k ∧ m = .int .i64 (lst (ws.take k)) ∧ g = .int .i64 (grt ws qs) ∧ f = .bool (farE ws qs) ∧ Hid (REInv ws k z qs) ∧ Hid (Below w.heap.size w wr)) (fun _ _ _ i _ => n - (intOf i).toNat)
  case atStart => exact ⟨0, 0, [], Nat.zero_le _, rfl, rfl, rfl, rfl, Lib.hid (REInv.start ws), Lib.hid (Below.refl _ _)⟩
  case round =>
    obtain ⟨k, z, qs, hk, rfl, rfl, rfl, rfl, hE, hB⟩ := hrel
    have hlen := hR.out.len
    by_cases hlt : k < n
    case neg =>
      have e : k = n := by omega
      have e2 : ws.take k = ws := List.take_of_length_le (by omega)
      have e3 : qs = rs := by
        have h : REInv ws k z qs := hE.out
        rw [e, hlen] at h
        exact h.fin.uniq hrs.out
      rw [e2, e3]
      have hlt' : ¬ (k : Int) < (n : Int) := by omega
      clear e e2 e3 hlen hE
      go_wp2_with fail
      refine bodyPost_ret (v := .tuple #[.int .i64 (lst ws), .int .i64 (grt ws rs), .bool (farE ws rs)]) (by simp [results, Try.results26, go_sem]) rfl ⟨rfl, hB.out⟩
    have i1 : (0 : Int) ≤ (k : Int) := by omega
    have i2 : (k : Int) < (n : Int) := by omega
    obtain ⟨x, hx⟩ : ∃ x, ws[k]? = some x := ⟨ws[k]'(by omega), List.getElem?_eq_getElem _⟩
    obtain ⟨a0, rfl, hab, c0, c1, c2, c3, c4⟩ := (hR.out.at_.keep hB.out).wrd hx
    have hjn : joinB ws k = decide (x.e ≤ 0) := by unfold joinB; rw [hx]
    have hl1 : k = 0 → lst (ws.take (k + 1)) = x.w := fun e => by subst e; exact lst_first hx
    have hl2 : 0 < k → lst (ws.take (k + 1)) = if lst (ws.take k) < x.w then x.w else lst (ws.take k) := fun e => lst_next e hx
    replace hl1 := Lib.hid hl1
    replace hl2 := Lib.hid hl2
    replace hjn := Lib.hid hjn
    replace hlen := Lib.hid hlen
    replace hx := Lib.hid hx
    generalize lst (ws.take k) = m0 at *
    obtain ⟨m1, hm1⟩ : ∃ m1, lst (ws.take (k + 1)) = m1 := ⟨_, rfl⟩
    rw [hm1] at hl1 hl2
    replace hm1 := Lib.hid hm1
    go_upto_region 7 with fail
    go_cut [29] (fun b wx => wx = wr ∧ b = .bool (decide (k = 0 ∨ m0 < x.w)))
    case first =>
      by_cases hk0 : k = 0
      · have hk1 : ((k : Int) == 0) = true := by simpa using hk0
        have hd : decide (k = 0 ∨ m0 < x.w) = true := decide_eq_true (.inl hk0)
        replace hk0 := Lib.hid hk0
        replace hd := Lib.hid hd
        go_wp2_with fail
        go_meet
        exact ⟨rfl, by rw [hd.out]⟩
      · have hk1 : ((k : Int) == 0) = false := by simpa using hk0
        have hd : decide (k = 0 ∨ m0 < x.w) = decide (m0 < x.w) := by simp [hk0]
        replace hk0 := Lib.hid hk0
        replace hd := Lib.hid hd
        go_wp2_with fail
        go_meet
        exact ⟨rfl, by rw [hd.out]⟩
    case rest =>
    obtain ⟨rfl, rfl⟩ := hcut
    go_upto_if 29 with fail
    go_cut [5] (fun m wx => wx = wc ∧ m = .int .i64 m1)
    case first =>
      by_cases hd : k = 0 ∨ m0 < x.w
      · have hm : m1 = x.w := by
          rcases Nat.eq_zero_or_pos k with h | h
          · exact hl1.out h
          · rw [hl2.out h, if_pos (by rcases hd with hd | hd <;> first | omega | exact hd)]
        rw [decide_eq_true hd]
        replace hm := Lib.hid hm
        clear hd
        go_wp2_with fail
        go_meet
        exact ⟨rfl, by rw [hm.out]⟩
      · have hm : m1 = m0 := by
          rw [hl2.out (by omega), if_neg (by omega)]
        rw [decide_eq_false hd]
        replace hm := Lib.hid hm
        clear hd
        go_wp2_with fail
        go_meet
        exact ⟨rfl, by rw [hm.out]⟩
    case rest =>
    obtain ⟨hwc, rfl⟩ := hcut
    subst hwc
    clear hl1 hl2
    by_cases hst : 0 < k ∧ x.e ≤ 0
    · obtain ⟨hpos, he⟩ := hst
      have hE2 := Lib.hid (hE.out.stay hpos (by rw [hjn.out]; exact decide_eq_true he))
      have hpos' : (0 : Int) < (k : Int) := by omega
      go_wp2_with fail
      go_roundw
      case rel => exact ⟨k + 1, z, qs, by omega, by go_num, by rw [hm1.out], rfl, rfl, hE2, hB⟩
      case measure => simp [intOf]; omega
    · have hzk : z = k := hE.out.here (by
        rw [hjn.out]
        rcases Nat.eq_zero_or_pos k with h | h
        · exact .inl h
        · exact .inr (decide_eq_false (fun he => hst ⟨h, he⟩)))
      rw [hzk] at hE
      go_upto_region 9 with fail
      go_cut [44] (fun b wx => wx = wc ∧ b = .bool false)
      case first =>
        by_cases hk0 : 0 < k
        · have hk1 : (0 : Int) < (k : Int) := by omega
          have he : ¬ x.e ≤ 0 := fun he => hst ⟨hk0, he⟩
          clear hst
          go_wp2_with fail
          go_meet
          exact ⟨rfl, rfl⟩
        · have hk1 : ¬ (0 : Int) < (k : Int) := by omega
          clear hst
          go_wp2_with fail
          go_meet
          exact ⟨rfl, rfl⟩
      case rest =>
      obtain ⟨hwc, rfl⟩ := hcut
      clear hst hzk
      subst hwc
      have hG0 : Hid (GRow intE 2 1 w (.slice (some ⟨wc.heap.size, 0, none⟩) 1 1) (rowI (subs ws ⟨k, k + 1⟩)) (wc.alloc (.cells #[.int .i64 x.w] 2))) := by
        refine Lib.hid ?_
        rw [rowI_sub1 hx.out]
        exact ⟨World.ownsRow_lit (e := 2) wc #[.int .i64 x.w] 1 hB.out.size (by unfold maxLen; omega) rfl, hB.out.alloc hB.out.size _⟩
      go_upto_region 11 with fail
      generalize hW : World.alloc wc _ = V at *
      generalize Value.slice (some ⟨wc.heap.size, 0, none⟩) 1 1 = v0 at *
      clear hW c0 c1 c2 c3 c4
      go_wp2_with fail
      go_loopw [9, 10] (fun v j wx => ∃ t : Nat, k < t ∧ t ≤ n ∧ j = .int .i64 t ∧ Hid (GRow intE 2 1 w v (rowI (subs ws ⟨k, t⟩)) wx) ∧ Hid (∀ i, k < i → i < t → joinB ws i = true)) (fun _ j _ => n - (intOf j).toNat)
      case atStart => exact ⟨k + 1, by omega, by omega, by go_num, hG0, Lib.hid (fun i h1 h2 => by omega)⟩
      case round =>
        clear hG0 hB
        obtain ⟨t, hkt, htn, rfl, hG, hJ⟩ := hrel
        have t1 : (0 : Int) ≤ (t : Int) := by omega
        have hrl := rowI_len (subs ws ⟨k, t⟩)
        have hsl : (subs ws ⟨k, t⟩).length ≤ n := by rw [hlen.out]; unfold subs; simp; omega
        by_cases hmore : t < n ∧ joinB ws t = true
        · obtain ⟨htl, hjt⟩ := hmore
          have t2 : (t : Int) < (n : Int) := by omega
          obtain ⟨y, hy⟩ : ∃ y, ws[t]? = some y := ⟨ws[t]'(by rw [← hlen.out]; exact htl), List.getElem?_eq_getElem _⟩
          have hye : y.e ≤ 0 := by
            unfold joinB at hjt
            rw [hy] at hjt
            simpa using hjt
          have cell : ∀ v, Below w.heap.size w v → (v.cell? ⟨(a0.add (t * 5)).block, (a0.add (t * 5)).off + 2, none⟩ = some (.int .i64 y.w) ∧ v.cell? ⟨(a0.add (t * 5)).block, (a0.add (t * 5)).off + 3, none⟩ = some (.int .i64 y.g)) ∧ v.cell? ⟨(a0.add (t * 5)).block, (a0.add (t * 5)).off + 4, none⟩ = some (.int .i64 y.e) := fun v hb => by
            obtain ⟨a', e, _, d0, d1, d2, d3, d4⟩ := (hR.out.at_.keep hb).wrd hy
            obtain rfl := Option.some.inj e
            exact ⟨⟨d2, d3⟩, d4⟩
          replace cell := Lib.hid cell
          have hnx := Lib.hid (rowI_sub2 hkt hy)
          have hJ2 : Hid (∀ i, k < i → i < t + 1 → joinB ws i = true) := Lib.hid (fun i h1 h2 => by
            by_cases e : i = t
            · subst e; exact hjt
            · exact hJ.out i h1 (by omega))
          have d4 := (cell.out _ hG.out.hb).2
          have hl1 : Hid ((rowI (subs ws ⟨k, t⟩)).length + 2 ≤ 100000000) := Lib.hid (by omega)
          generalize rowI (subs ws ⟨k, t⟩) = out at *
          replace hy := Lib.hid hy
          replace hjt := Lib.hid hjt
          go_upto_region 14 with fail
          have J := hG.out.drew
          have own1 := Lib.hid (J.alloc (.cells ([y.w, y.g].flatMap intE).toArray 2)).row
          have hlit := Lib.hid (Holds.lit (f := intE) wr.drew [y.w, y.g] 2)
          have hbase := Lib.hid (J.base (.cells ([y.w, y.g].flatMap intE).toArray 2))
          go_region_held3 (fun w' => w'.cell? ⟨(a0.add (t * 5)).block, (a0.add (t * 5)).off + 2, none⟩ = some (.int .i64 y.w) ∧ w'.cell? ⟨(a0.add (t * 5)).block, (a0.add (t * 5)).off + 3, none⟩ = some (.int .i64 y.g))
            (first | exact (cell.out _ J.hb).1 | exact (cell.out _ (J.hb.alloc J.hb.size _)).1 | exact (cell.out _ J1.hb).1 | (go_keep; done))
            ((refine step_append_row rfl (.tmp 67) (.tmp 78) 23 2 (by rfl) _ 8 Try.underlying23 infoI6 rfl (by decide) (by decide) intE_len intE_one w.heap.size u9 out.length out (by rfl) own1.out _ _ 2 2 [y.w, y.g] (by rfl) (fun h => by cases h) (Lib.hid rfl) hlit.out hl1.out hbase.out ?_; intro vJ1 wJ1 h3 h4 h5; have J1 := (J.alloc _).step h3 rfl h4; clear h3 h4 h5))
          have J2 := Lib.hid J1
          rw [← hnx.out] at J2
          clear own1 hlit hbase d4 J J1 hl1 hG hnx cell
          go_wp2_with fail
          go_roundw
          case rel => exact ⟨t + 1, by omega, by omega, by go_num, J2, hJ2⟩
          case measure => simp [intOf]; omega
        · have hend : joinB ws t = false := by
            rcases Nat.lt_or_ge t n with h | h
            · cases hj : joinB ws t with
              | false => rfl
              | true => exact (hmore ⟨h, hj⟩).elim
            · unfold joinB; rw [List.getElem?_eq_none (by rw [← hlen.out]; exact h)]
          have hE2 := Lib.hid (hE.out.next hkt (by rw [← hlen.out]; exact htn) hJ.out hend)
          have hg := Lib.hid (grt_snoc ws qs ⟨k, t⟩)
          have hf := Lib.hid (farE_snoc ws qs ⟨k, t⟩)
          obtain ⟨E, c', rfl, hS, hN⟩ := hG.out.fin intE_len (by omega)
          have cs := refsum_any E c' (rowI (subs ws ⟨k, t⟩)).length (rowI (subs ws ⟨k, t⟩)) wr (hS.at_.ints (rowI_i64 (fun z hz => hw.out z (List.mem_of_mem_take (List.mem_of_mem_drop hz))))) (Lib.hid rfl) (by omega)
          unfold MadeCut at cs
          rw [show (rowI (subs ws ⟨k, t⟩)).sum = rowS (subs ws ⟨k, t⟩) from rfl] at cs
          have hB := Lib.hid hG.out.hb
          generalize (rowI (subs ws ⟨k, t⟩)).length = q at *
          generalize rowS (subs ws ⟨k, t⟩) = S at *
          generalize hX : cutI S = X at *
          generalize hY : farI S = Y at *
          generalize grt ws qs = G at *
          generalize farE ws qs = b0 at *
          replace cs := Lib.hid cs
          replace hX := Lib.hid hX
          replace hY := Lib.hid hY
          replace hend := Lib.hid hend
          have hcell : t < n → ∃ y : Wrd, ws[t]? = some y ∧ ¬ y.e ≤ 0 ∧ wr.cell? ⟨(a0.add (t * 5)).block, (a0.add (t * 5)).off + 4, none⟩ = some (.int .i64 y.e) := fun h => by
            obtain ⟨y, hy⟩ : ∃ y, ws[t]? = some y := ⟨ws[t]'(by rw [← hlen.out]; exact h), List.getElem?_eq_getElem _⟩
            obtain ⟨a', e, _, d0, d1, d2, d3, d4⟩ := (hR.out.at_.keep hB.out).wrd hy
            obtain rfl := Option.some.inj e
            have := hend.out
            unfold joinB at this
            rw [hy] at this
            exact ⟨y, hy, by simpa using this, d4⟩
          have hways : (∃ y : Wrd, (t : Int) < (n : Int) ∧ ¬ y.e ≤ 0 ∧ wr.cell? ⟨(a0.add (t * 5)).block, (a0.add (t * 5)).off + 4, none⟩ = some (.int .i64 y.e)) ∨ ¬ (t : Int) < (n : Int) := by
            rcases Nat.lt_or_ge t n with h | h
            · obtain ⟨y, _, h1, h2⟩ := hcell h
              exact .inl ⟨y, by omega, h1, h2⟩
            · exact .inr (by omega)
          clear hcell hmore hS hN hG hrl hsl
          rcases hways with ⟨y, j1, j2, j3⟩ | j1
          all_goals
            cases b0
            all_goals
              go_wp2_with fail
              refine cs.out.mono ?_; rintro e w2 ⟨rfl, hb2⟩
              replace hb2 := Lib.hid (hB.out.trans (hb2.mono hB.out.size))
              go_wp2_with fail
              go_roundw
              case rel => exact ⟨k + 1, t, qs ++ [⟨k, t⟩], by omega, by go_num, by rw [hm1.out], by rw [hg.out], by rw [hf.out]; rfl, hE2, hb2⟩
              case measure => simp [intOf]; omega
end Go.Proofs.Ytnmfcbmdopmglaa
