/-
  Contract of the statements' tidy: it answers a text that has the same words.
-/
import Derived.Test.YtnmfcbmdopmglaaTidy6
namespace Go.Proofs.Ytnmfcbmdopmglaa
open Go.RowKit
set_option linter.unusedVariables false

theorem last_of {out : List Int} {q : Nat} (h : out.length = q + 1) : ∃ o y, out = o ++ [y] ∧ out[q]? = some y := by
  have hl : q < out.length := by omega
  refine ⟨out.take q, out[q], ?_, List.getElem?_eq_getElem hl⟩
  rw [← List.take_succ_eq_append_getElem hl, List.take_of_length_le (by omega)]
theorem blank_no {u : List Int} {k j : Nat} {z : Int} (h1 : k ≤ j) (h2 : ∀ i, k ≤ i → i < j → u[i]? = some 32) (hz : u[j]? = some z) (h3 : z ≠ 32) (h4 : z ≠ 10) : ¬ Blank u k := by
  rintro ⟨j', g1, g2, g3, g4⟩
  rcases Nat.lt_trichotomy j' j with h | h | h
  · rw [h2 j' g1 h] at g4
    rcases g4 with g | g <;> cases g
  · subst h
    rw [hz] at g4
    rcases g4 with g | g
    · cases g
    · cases g; exact h4 rfl
  · have := g3 j h1 h
    rw [hz] at this
    cases this
    exact h3 rfl

set_option maxRecDepth 100000 in
set_option maxHeartbeats 3200000 in
theorem tidy_h (U : Option Addr) (n c : Nat) (u : List Int) (w : World) (hU : Hid (Sl u16E w U n c u)) (hu : Hid (∀ x ∈ u, U16 x)) (hn : n ≤ 100000) :
    Calls Try.prog 28 #[.slice U n c] w fun e w' => ∃ out, toks out = toks u ∧ (∀ x ∈ out, U16 x) ∧ out.length ≤ n ∧ MadeSl u16E w out e w' := by
  have hst : Hid (GRow u16E 26 1 w (.slice none 0 0) ([] : List Int) w) := Lib.hid (GRow.start w)
  go_enter Try.func28, Try.ntmps28
  go_wp2_with fail
  go_loopw [3, 4] (fun v i wr => ∃ (k : Nat) (out : List Int), k ≤ n ∧ i = .int .i64 k ∧ out.length ≤ k ∧ Hid (GRow u16E 26 1 w v out wr) ∧ Hid (TRel u k out) ∧ Hid (∀ x ∈ out, U16 x)) (fun _ i _ => n - (intOf i).toNat)
  case atStart => exact ⟨0, [], Nat.zero_le _, rfl, Nat.le_refl _, hst, Lib.hid (TRel.start u), Lib.hid (fun x hx => by cases hx)⟩
  case round =>
    clear hst
    obtain ⟨k, out, hk, rfl, hol, hG, hT, hO⟩ := hrel
    have i1 : (0 : Int) ≤ (k : Int) := by omega
    by_cases hlt : k < n
    case neg =>
      have hlt' : ¬ (k : Int) < (n : Int) := by omega
      have hd : toks out = toks u := by
        have h := hT.out
        rw [show k = u.length by rw [← hU.out.len]; omega] at h
        exact h.done
      obtain ⟨E, c', rfl, hS, hN⟩ := hG.out.fin u16E_len (by omega)
      have hM : Hid (toks out = toks u ∧ (∀ x ∈ out, U16 x) ∧ out.length ≤ n ∧ MadeSl u16E w out (.returned (.slice E out.length c')) wr) := Lib.hid ⟨hd, hO.out, by omega, E, c', rfl, hS, hG.out.hb, hN⟩
      clear hd hS hN hG hT hO
      go_wp2_with fail
      go_ret
      exact ⟨out, hM.out⟩
    have i2 : (k : Int) < (n : Int) := by omega
    obtain ⟨b, rfl, hbb, hcu0⟩ := u16_cell hU.out hlt
    have hcu := (hG.out.hb.cell (p := b.add k) (by rw [add_block]; exact hbb)).trans hcu0
    have hxu := u16_get hu.out k
    have hgx : u[k]? = some (u.getD k 0) := by rw [List.getD_eq_getElem?_getD, List.getElem?_eq_getElem (by rw [← hU.out.len]; exact hlt)]; rfl
    generalize u.getD k 0 = x at *
    clear hcu0
    by_cases h32 : x = 32
    case neg =>
      have h32' : (x != 32) = true := by simpa using h32
      have hT2 : Hid (TRel u (k + 1) (out ++ [x])) := by
        refine Lib.hid ?_
        by_cases h10 : x = 10
        · subst h10; exact hT.out.nl hgx
        · exact hT.out.letter hgx (by simp [isW, h32, h10])
      have hO2 : Hid (∀ y ∈ out ++ [x], U16 y) := Lib.hid (fun y hy => by
        rcases List.mem_append.1 hy with h | h
        · exact hO.out y h
        · simp at h; subst h; exact hxu)
      have hlit := Lib.hid (Holds.lit (f := u16E) wr [x] 26)
      have hA3 := hG.out.alloc (.cells ([x].flatMap u16E).toArray 26)
      have hown := Lib.hid hA3.row
      have hbase := Lib.hid (hG.out.base (.cells ([x].flatMap u16E).toArray 26))
      replace hA3 := Lib.hid hA3
      replace h32 := Lib.hid h32
      replace hgx := Lib.hid hgx
      replace hxu := Lib.hid hxu
      clear hG hT
      go_wp2_with (at_builtin; refine append_row rfl (.tmp 17) (.tmp 22) 36 26 rfl _ 2 Try.underlying36 infoU6 rfl (by decide) (by decide) u16E_len u16E_one6 w.heap.size u3 out.length out rfl hown.out _ _ 1 1 [_] rfl (fun h => by cases h) (Lib.hid rfl) hlit.out (by omega) hbase.out ?_; intro v' w' h3 h4 h5; have hR2 := Lib.hid (hA3.out.step h3 rfl h4); clear h3 h4 h5)
      go_roundw
      case rel => exact ⟨k + 1, out ++ [x], by omega, by go_num, by (rw [List.length_append]; simp only [List.length_cons, List.length_nil]; omega), hR2, hT2, hO2⟩
      case measure => simp [intOf]; omega
    subst h32
    replace hgx := Lib.hid hgx
    clear hxu
    go_upto_region 8 with fail
    go_loopw [5] (fun j wx => ∃ t : Nat, k ≤ t ∧ t ≤ n ∧ j = .int .i64 t ∧ Hid (∀ i, k ≤ i → i < t → u[i]? = some 32) ∧ wx = wr) (fun j _ => n - (intOf j).toNat)
    case atStart => exact ⟨k, Nat.le_refl _, by omega, rfl, Lib.hid (fun i h1 h2 => by omega), rfl⟩
    case round =>
      obtain ⟨t, hkt, htn, rfl, hsp, rfl⟩ := hrel
      have t1 : (0 : Int) ≤ (t : Int) := by omega
      by_cases hmore : t < n ∧ u[t]? = some 32
      · obtain ⟨htl, hu32⟩ := hmore
        have t2 : (t : Int) < (n : Int) := by omega
        obtain ⟨b2, e2, _, hct0⟩ := u16_cell hU.out htl
        cases e2
        have hct := (hG.out.hb.cell (p := b.add t) (by rw [add_block]; exact hbb)).trans hct0
        rw [List.getD_eq_getElem?_getD, hu32] at hct
        simp only [Option.getD_some] at hct
        have hsp2 : Hid (∀ i, k ≤ i → i < t + 1 → u[i]? = some 32) := Lib.hid (fun i h1 h2 => by
          by_cases e : i = t
          · subst e; exact hu32
          · exact hsp.out i h1 (by omega))
        clear hct0 hu32
        go_wp2_with fail
        go_roundw
        case rel => exact ⟨t + 1, by omega, by omega, by go_num, hsp2, trivial⟩
        case measure => simp [intOf]; omega
      · -- the spaces are over at t
        have hend : t = n ∨ ∃ z, u[t]? = some z ∧ z ≠ 32 ∧ (t < n) ∧ U16 z := by
          rcases Nat.lt_or_ge t n with h | h
          · have hl : t < u.length := by rw [← hU.out.len]; exact h
            have hz := List.getElem?_eq_getElem hl
            exact .inr ⟨_, hz, fun e => hmore ⟨h, by rw [hz, e]⟩, h, hu.out _ (List.getElem_mem hl)⟩
          · exact .inl (by omega)
        clear hmore
        have hfst : Hid (tkOf out = tkOf out) := Lib.hid rfl
        -- whether a space is to be kept
        have hway : Hid (((tkOf out).r ≠ [] ∧ ¬ Blank u k ∧ TRel u (k + 1) (out ++ [32])) ∨ TRel u (k + 1) out) := by
          refine Lib.hid ?_
          by_cases hr : (tkOf out).r = []
          · exact .inr (hT.out.keep hgx.out (.inl hr))
          · by_cases hb : Blank u k
            · exact .inr (hT.out.keep hgx.out (.inr hb))
            · exact .inl ⟨hr, hb, hT.out.space hgx.out hr hb⟩
        have hbl1 : t = n → Blank u k := fun e => ⟨t, hkt, by rw [← hU.out.len]; exact htn, hsp.out, .inl (by rw [List.getElem?_eq_none]; rw [← hU.out.len]; omega)⟩
        have hbl2 : u[t]? = some 10 → Blank u k := fun e => ⟨t, hkt, by rw [← hU.out.len]; exact htn, hsp.out, .inr e⟩
        have hbl3 : ∀ z, u[t]? = some z → z ≠ 32 → z ≠ 10 → ¬ Blank u k := fun z h1 h2 h3 => blank_no hkt hsp.out h1 h2 h3
        replace hbl1 := Lib.hid hbl1
        replace hbl2 := Lib.hid hbl2
        replace hbl3 := Lib.hid hbl3
        have hcell : ∀ z, t < n → u[t]? = some z → wr.cell? (b.add t) = some (.int .u16 z) := fun z htl hz => by
          obtain ⟨b2, e2, _, hct0⟩ := u16_cell hU.out htl
          cases e2
          have hct := (hG.out.hb.cell (p := b.add t) (by rw [add_block]; exact hbb)).trans hct0
          rw [List.getD_eq_getElem?_getD, hz] at hct
          exact hct
        replace hcell := Lib.hid hcell
        -- how the loop over the spaces ends
        have hexit : (¬ (t : Int) < (n : Int) ∧ t = n) ∨ (∃ z, (t : Int) < (n : Int) ∧ t < n ∧ u[t]? = some z ∧ (z == 32) = false ∧ z ≠ 32 ∧ wr.cell? (b.add t) = some (.int .u16 z)) := by
          rcases hend with h | ⟨z, h1, h2, h3, _⟩
          · exact .inl ⟨by omega, h⟩
          · exact .inr ⟨z, by omega, h3, h1, by simpa using h2, h2, hcell.out z h3 h1⟩
        clear hend hfst
        by_cases hq0 : out.length = 0
        · have hkp : Hid (TRel u (k + 1) out) := Lib.hid (hT.out.keep hgx.out (.inl (by rw [List.eq_nil_of_length_eq_zero hq0]; rfl)))
          obtain ⟨E, c', hv, hS, hN⟩ := hG.out.fin u16E_len (by omega)
          rw [hq0] at hv
          subst hv
          replace hq0 := Lib.hid hq0
          clear hS hN hway hcell
          rcases hexit with ⟨j1, j2⟩ | ⟨z, j1, -, -, j2, -, j3⟩
          all_goals
            go_wp2_with fail
            go_roundw
            case rel => exact ⟨k + 1, out, by omega, by go_num, by omega, hG, hkp, hO⟩
            case measure => simp [intOf]; omega
        obtain ⟨q, hq⟩ : ∃ q, out.length = q + 1 := ⟨out.length - 1, by omega⟩
        obtain ⟨o, y, hoy, hyl⟩ := last_of hq
        have hlast := tk_last o y
        rw [← hoy] at hlast
        obtain ⟨E, c', hv, hS, hN⟩ := hG.out.fin u16E_len (by omega)
        rw [hq] at hv hS
        obtain ⟨a, rfl, _, hay⟩ := hS.at_.get u16E_len hyl
        have hcy : wr.cell? (a.add q) = some (.int .u16 y) := by have := hay 0 _ rfl; simpa using this
        have q1 : (0 : Int) ≤ (q : Int) := by omega
        have q2 : (0 : Int) < (q : Int) + 1 := by omega
        have q3 : (q : Int) < ((q + 1 : Nat) : Int) := by omega
        have q4 : decide (0 < q + 1) = true := decide_eq_true (by omega)
        by_cases hkeep : (tkOf out).r = [] ∨ Blank u k
        · have hkp : Hid (TRel u (k + 1) out) := Lib.hid (hT.out.keep hgx.out hkeep)
          have hw3 : (y = 10 ∨ (y ≠ 10 ∧ y = 32)) ∨ (y ≠ 10 ∧ y ≠ 32) := by omega
          subst hv
          rcases hw3 with hw3 | ⟨hy1, hy2⟩
          · clear hway hcell hkeep hlast hoy hyl hay hS hN
            rcases hw3 with rfl | ⟨_, rfl⟩
            all_goals
              rcases hexit with ⟨j1, j2⟩ | ⟨z, j1, -, -, j2, -, j3⟩
              all_goals
                go_wp2_with fail
                go_roundw
                case rel => exact ⟨k + 1, out, by omega, by go_num, by omega, hG, hkp, hO⟩
                case measure => simp [intOf]; omega
          · have hwy : isW y = true := by simp [isW, hy1, hy2]
            have hbk : Blank u k := by
              rcases hkeep with h | h
              · have := hlast.1 h; rw [hwy] at this; cases this
              · exact h
            have y1 : (y != 10) = true := by simpa using hy1
            have y2 : (y != 32) = true := by simpa using hy2
            rcases hexit with ⟨j1, j2⟩ | ⟨z, j1, j1', hz, j2, j2', j3⟩
            · clear hway hcell hkeep hlast hoy hyl hay hS hN hwy hbk
              replace hy1 := Lib.hid hy1
              replace hy2 := Lib.hid hy2
              go_wp2_with fail
              go_roundw
              case rel => exact ⟨k + 1, out, by omega, by go_num, by omega, hG, hkp, hO⟩
              case measure => simp [intOf]; omega
            · have hz10 : z = 10 := by
                rcases Decidable.em (z = 10) with h | h
                · exact h
                · exact (hbl3.out z hz j2' h hbk).elim
              subst hz10
              clear hway hcell hkeep hlast hoy hyl hay hS hN hwy hbk j2'
              replace hz := Lib.hid hz
              replace hy1 := Lib.hid hy1
              replace hy2 := Lib.hid hy2
              go_wp2_with fail
              go_roundw
              case rel => exact ⟨k + 1, out, by omega, by go_num, by omega, hG, hkp, hO⟩
              case measure => simp [intOf]; omega
        · -- the space stays
          have hr : (tkOf out).r ≠ [] := fun h => hkeep (.inl h)
          have hnb : ¬ Blank u k := fun h => hkeep (.inr h)
          have hwy : isW y = true := by
            cases h : isW y with
            | true => rfl
            | false => exact (hr (hlast.2 h)).elim
          have hy1 : y ≠ 10 := fun e => by subst e; cases hwy
          have hy2 : y ≠ 32 := fun e => by subst e; cases hwy
          have y1 : (y != 10) = true := by simpa using hy1
          have y2 : (y != 32) = true := by simpa using hy2
          have hT2 : Hid (TRel u (k + 1) (out ++ [32])) := Lib.hid (hT.out.space hgx.out hr hnb)
          have hO2 : Hid (∀ y ∈ out ++ [32], U16 y) := Lib.hid (fun y hy => by
            rcases List.mem_append.1 hy with h | h
            · exact hO.out y h
            · simp at h; subst h; unfold U16; omega)
          rcases hexit with ⟨_, j2⟩ | ⟨z, j1, j1', hz, j2, j2', j3⟩
          · exact (hnb (hbl1.out j2)).elim
          have hz10 : (z != 10) = true := by
            have : z ≠ 10 := fun e => hnb (hbl2.out (by rw [hz, e]))
            simpa using this
          clear hway hcell hkeep hlast hoy hyl hay hS hN hwy hr hnb j2' hT
          replace hy1 := Lib.hid hy1
          replace hy2 := Lib.hid hy2
          replace hz := Lib.hid hz
          replace hv := Lib.hid hv
          go_upto_region 10 with fail
          go_cut [71] (fun b wx => wx = wr ∧ b = .bool true)
          case first =>
            have hv2 := hv.out
            clear hv
            subst hv2
            go_wp2_with fail
            go_meet
            exact ⟨rfl, rfl⟩
          case rest =>
          obtain ⟨hwc, rfl⟩ := hcut
          subst hwc
          have hlit := Lib.hid (Holds.lit (f := u16E) wc [32] 26)
          have hA3 := hG.out.alloc (.cells ([(32 : Int)].flatMap u16E).toArray 26)
          have hown := Lib.hid hA3.row
          have hbase := Lib.hid (hG.out.base (.cells ([(32 : Int)].flatMap u16E).toArray 26))
          replace hA3 := Lib.hid hA3
          clear hcy j3 hG
          go_wp2_with (at_builtin; refine append_row rfl (.tmp 72) (.tmp 77) 36 26 rfl _ 2 Try.underlying36 infoU6 rfl (by decide) (by decide) u16E_len u16E_one6 w.heap.size u3 out.length out rfl hown.out _ _ 1 1 [_] rfl (fun h => by cases h) (Lib.hid rfl) hlit.out (by omega) hbase.out ?_; intro v' w' h3 h4 h5; have hR2 := Lib.hid (hA3.out.step h3 rfl h4); clear h3 h4 h5)
          go_roundw
          case rel => exact ⟨k + 1, out ++ [32], by omega, by go_num, by (rw [List.length_append]; simp only [List.length_cons, List.length_nil]; omega), hR2, hT2, hO2⟩
          case measure => simp [intOf]; omega
end Go.Proofs.Ytnmfcbmdopmglaa
