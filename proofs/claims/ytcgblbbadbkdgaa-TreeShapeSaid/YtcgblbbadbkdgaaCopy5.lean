/-
  Contract of the document's Copy.
-/
import Derived.Test.YtcgblbbadbkdgaaAlike
import Derived.Test.YtcgblbbadbkdgaaNodeLaw
import Derived.Test.YtcgblbbadbkdgaaView6
import Derived.Deep.RegionLaw
import Derived.Deep.DeepCutAuto
namespace Go.Proofs.Ytcgblbbadbkdgaa
open Go.RowKit
set_option linter.unusedVariables false
set_option linter.unusedSimpArgs false

theorem copy_start {w0 V wr : World} {g tb : Nat} {t : TreeV} {B : Option Addr} {cB : Nat} (hT : TBox w0 g t V) (hb : Below V.heap.size V wr) (hh : Box wr tb [.slice none 0 0, .slice B t.an cB, .int .i64 t.view]) (hge : V.heap.size ≤ tb)
    (hS : Sl intE wr B t.an cB t.av) (hn : ∀ a, B = some a → a.block ≠ tb ∧ a.block < wr.heap.size ∧ V.heap.size ≤ a.block) : CopyInv w0 V g tb t B cB (.slice none 0 0) [] wr :=
  ⟨hT.below hb, ⟨World.ownsRow_nil _ _ _ _, hh, hge, by simp [Value.ownBlock], hb⟩, hS, fun a e => ⟨(hn a e).1, by simp [Value.ownBlock], (hn a e).2.1, (hn a e).2.2⟩, fun j y hy => by simp at hy, hT.box.lt, hT.hb.size⟩

theorem arm_ne2 (V : World) {B : Option Addr} {n c : Nat} {X Y : Obj} (h : Value.ownBlock (.slice B n c) = Value.ownBlock (.slice (some ⟨V.drew.heap.size, 0, none⟩) 0 0) ∨ Value.ownBlock (.slice B n c) = some ((V.drew.alloc X).alloc Y).heap.size) :
    ∀ a, B = some a → a.block ≠ V.heap.size + 1 := fun a e h2 => by
  subst e
  have e0 : V.drew.heap.size = V.heap.size := rfl
  rcases h with h | h
  · have e1 : a.block = V.heap.size := Option.some.inj h
    omega
  · have e1 : a.block = ((V.drew.alloc X).alloc Y).heap.size := Option.some.inj h
    have e2 : ((V.drew.alloc X).alloc Y).heap.size = V.drew.heap.size + 1 + 1 := by simp
    omega
theorem arm_ne3 (V : World) {B : Option Addr} {n c : Nat} {X Y : Obj} (h : Value.ownBlock (.slice B n c) = Value.ownBlock (.slice (some ⟨V.heap.size + 1, 0, none⟩) 0 0) ∨ Value.ownBlock (.slice B n c) = some ((V.drew.alloc X).alloc Y).heap.size) :
    ∀ a, B = some a → a.block ≠ V.heap.size := fun a e h2 => by
  subst e
  have e0 : V.drew.heap.size = V.heap.size := rfl
  rcases h with h | h
  · have e1 : a.block = V.heap.size + 1 := Option.some.inj h
    omega
  · have e1 : a.block = ((V.drew.alloc X).alloc Y).heap.size := Option.some.inj h
    have e2 : ((V.drew.alloc X).alloc Y).heap.size = V.drew.heap.size + 1 + 1 := by simp
    omega
theorem copy_end1 {w0 V w3 : World} {g : Nat} {t : TreeV} {B : Option Addr} {cB : Nat} (hT : TBox w0 g t V) (hb : Below V.heap.size V w3) (hS : Sl intE w3 B t.an cB t.av) (hn : ∀ a, B = some a → V.heap.size ≤ a.block ∧ a.block < w3.heap.size) :
    CopyInv w0 V g w3.heap.size t B cB (.slice none 0 0) [] (w3.alloc (.cells #[.slice none 0 0, .slice B t.an cB, .int .i64 t.view] 35)) :=
  copy_start hT (hb.alloc hb.size _) (Box.new w3 [.slice none 0 0, .slice B t.an cB, .int .i64 t.view] _) hb.size (hS.below ((Below.refl _ _).alloc (Nat.le_refl _) _)) (fun a e => by
    have := hn a e
    simp
    omega)
theorem copy_end2 {w0 V w3 : World} {g tb : Nat} {t : TreeV} {B : Option Addr} {cB : Nat} (hT : TBox w0 g t V) (hb : Below V.heap.size V w3) (hX : Box w3 tb [.slice none 0 0, .slice none 0 0, .int .i64 0]) (hge : V.heap.size ≤ tb) (hS : Sl intE w3 B t.an cB t.av) (hn : ∀ a, B = some a → V.heap.size ≤ a.block ∧ a.block < w3.heap.size) (hne : ∀ a, B = some a → a.block ≠ tb) :
    CopyInv w0 V g tb t B cB (.slice none 0 0) [] (((w3.setCell ⟨tb, 0, none⟩ (.slice none 0 0)).setCell ⟨tb, 1, none⟩ (.slice B t.an cB)).setCell ⟨tb, 2, none⟩ (.int .i64 t.view)) := by
  have h5 := ((hX.set 0 (.slice none 0 0) (by simp)).set 1 (.slice B t.an cB) (by simp)).set 2 (.int .i64 t.view) (by simp)
  have bu := (((But.refl [tb] w3).set tb 0 (.inl (by simp)) (.slice none 0 0)).set tb 1 (.inl (by simp)) (.slice B t.an cB)).set tb 2 (.inl (by simp)) (.int .i64 t.view)
  refine copy_start hT (((hb.setCell hge _).setCell hge _).setCell hge _) h5 hge (hS.but bu (fun a e => by simpa using hne a e)) (fun a e => ⟨hne a e, ?_, (hn a e).1⟩)
  have := (hn a e).2
  simpa [World.setCell] using this
theorem size_one (w : World) (o : Obj) : (w.alloc o).heap.size = w.heap.size + 1 := by simp
theorem ne_arm2 (V : World) : some (V.heap.size + 1) ≠ Value.ownBlock (.slice (some ⟨V.drew.heap.size, 0, none⟩) 0 0) := fun e => by
  have e1 : V.heap.size + 1 = V.heap.size := Option.some.inj e
  omega
theorem ne_arm3 (V : World) : some V.heap.size ≠ Value.ownBlock (.slice (some ⟨V.heap.size + 1, 0, none⟩) 0 0) := fun e => by
  have e1 : V.heap.size = V.heap.size + 1 := Option.some.inj e
  omega
set_option maxRecDepth 100000 in
set_option maxHeartbeats 3200000 in
theorem copy_h (t : TreeV) (w : World) (h : Hid (TreeOk w t)) (hn : t.nn ≤ 100000) (hm : t.an ≤ 100000) (hu : Hid (∀ x ∈ t.ns, x.s.un ≤ 100000)) :
    Calls Try.prog 17 #[.agg #[.slice t.na t.nn t.nc, .slice t.aa t.an t.ac, .int .i64 t.view]] w fun e w' =>
      ∃ A c B b ms, e = .returned (.agg #[.slice A t.nn c, .slice B t.an b, .int .i64 t.view]) ∧ TreeAt w' ⟨A, t.nn, c, ms, B, t.an, b, t.av, t.view⟩ ∧ CopyOf w w' t.ns ms ∧ Below w.heap.size w w' := by
  have hln := Lib.hid h.out.at_.nodes.len
  have hlm := Lib.hid h.out.at_.advs.len
  go_enter Try.func17, Try.ntmps17
  go_upto_region 1 with fail
  obtain ⟨V1, hV1⟩ : ∃ V1, V1 = w.alloc (.cells #[.slice t.na t.nn t.nc, .slice t.aa t.an t.ac, .int .i64 t.view] 35) := ⟨_, rfl⟩
  have hT0 := TBox.start h.out.at_ hV1.symm
  have hsz : V1.heap.size = w.heap.size + 1 := by rw [hV1]; simp
  rw [← hV1, ← hsz]
  obtain ⟨g, hg⟩ : ∃ g, g = w.heap.size := ⟨_, rfl⟩
  rw [← hg] at hT0 ⊢
  clear hV1
  obtain ⟨rb, hrb⟩ : ∃ rb, rb = V1.heap.size := ⟨_, rfl⟩
  rw [← hrb]
  generalize hW : World.alloc V1 _ = V
  obtain ⟨hT, hR⟩ : TBox w g t V ∧ Box V rb [.slice none 0 0, .slice none 0 0, .int .i64 0] := by
    subst hW
    rw [hrb]
    exact ⟨hT0.below ((Below.refl _ _).alloc (Nat.le_refl _) _), Box.new V1 _ _⟩
  have hrg : w.heap.size ≤ rb := by omega
  clear hW hT0 hg hrb hsz
  obtain ⟨k0, k1, k2⟩ := hT.cells
  have hS := Lib.hid hT.at_.advs
  have hlt := hT.box.lt
  have hlt2' := Lib.hid hR.lt
  replace hT := Lib.hid hT
  replace hR := Lib.hid hR
  go_cut [3] (fun p wx => ∃ tb B cB, p = .pointer (some ⟨tb, 0, none⟩) ∧ Hid (CopyInv w V g tb t B cB (.slice none 0 0) [] wx))
  case first =>
    have d0 : Below V.heap.size V V.drew := (Below.refl _ _).drew
    have o1 := Lib.hid (World.ownsRow_lit (base := V.drew.heap.size) (e := 2) (size := 1) V.drew #[] 0 (Nat.le_refl _) (Nat.zero_le _) (by rfl))
    have b1 := Lib.hid ((Below.refl V.drew.heap.size V.drew).alloc (Nat.le_refl _) (.cells #[] 2))
    have o2 := Lib.hid (o1.out.alloc (.cells #[.slice none 0 0, .slice none 0 0, .int .i64 0] 35))
    have b2 := Lib.hid (b1.out.alloc b1.out.size (.cells #[.slice none 0 0, .slice none 0 0, .int .i64 0] 35))
    have x2 : Hid (Box ((V.drew.alloc (.cells #[] 2)).alloc (.cells #[.slice none 0 0, .slice none 0 0, .int .i64 0] 35)) (V.heap.size + 1) [.slice none 0 0, .slice none 0 0, .int .i64 0]) := Lib.hid (by
      have hh := Box.new (V.drew.alloc (.cells #[] 2)) [.slice none 0 0, .slice none 0 0, .int .i64 0] 35
      have e : (V.drew.alloc (.cells #[] 2)).heap.size = V.drew.heap.size + 1 := size_one _ _
      rw [e] at hh
      exact hh)
    have o3 : Hid (((V.drew.alloc (.cells #[.slice none 0 0, .slice none 0 0, .int .i64 0] 35)).alloc (.cells #[] 2)).ownsRow V.drew.heap.size 2 1 (.slice (some ⟨V.heap.size + 1, 0, none⟩) 0 0) 0 []) := Lib.hid (by
      have hh := World.ownsRow_lit (base := V.drew.heap.size) (e := 2) (size := 1) (V.drew.alloc (.cells #[.slice none 0 0, .slice none 0 0, .int .i64 0] 35)) #[] 0 (by simp) (Nat.zero_le _) (by rfl)
      rw [size_one] at hh
      exact hh)
    have b3 := Lib.hid (((Below.refl V.drew.heap.size V.drew).alloc (Nat.le_refl _) (.cells #[.slice none 0 0, .slice none 0 0, .int .i64 0] 35)).alloc (by simp) (.cells #[] 2))
    have x3 : Hid (Box ((V.drew.alloc (.cells #[.slice none 0 0, .slice none 0 0, .int .i64 0] 35)).alloc (.cells #[] 2)) V.heap.size [.slice none 0 0, .slice none 0 0, .int .i64 0]) := Lib.hid ((Box.new V.drew [.slice none 0 0, .slice none 0 0, .int .i64 0] 35).alloc (.cells #[] 2))
    go_region_law (first | (refine step_append_row (f := intE) rfl (.tmp 6) (.tmp 8) 33 2 rfl _ 8 Try.underlying33 info64 rfl (by decide) (by decide) intE_len intE_one V.drew.heap.size (.slice (some ⟨V.drew.heap.size, 0, none⟩) 0 0) 0 [] rfl o1.out V.drew.heap.size t.aa t.an t.ac t.av rfl hS.out.nil (Lib.hid hS.out.len) ((hS.out.below d0).at_.keep b1.out) (by omega) b1.out.size ?_; intro v1 w3 h3 h4 h5; have hb2 := Lib.hid (b1.out.grown h4 b1.out.size (fun k hk => (o1.out.lt k hk).1)); rw [Nat.zero_add, List.nil_append] at h3; obtain ⟨B, cB, rfl, hSB, hNB⟩ := Sl.own h3 intE_len (by omega); replace hSB := Lib.hid hSB; replace hNB : Hid (∀ a, B = some a → V.heap.size ≤ a.block ∧ a.block < w3.heap.size) := Lib.hid (fun a e => h3.lt a.block (by rw [e]; rfl)); obtain ⟨m0, m1, m2⟩ := ((hT.out.below d0).below hb2.out).cells; have mlt := ((hT.out.below d0).below hb2.out).box.lt; clear h3 h4 h5) | (refine step_append_row (f := intE) rfl (.tmp 6) (.tmp 8) 33 2 rfl _ 8 Try.underlying33 info64 rfl (by decide) (by decide) intE_len intE_one V.drew.heap.size (.slice (some ⟨V.drew.heap.size, 0, none⟩) 0 0) 0 [] rfl o2.out V.drew.heap.size t.aa t.an t.ac t.av rfl hS.out.nil (Lib.hid hS.out.len) ((hS.out.below d0).at_.keep b2.out) (by omega) b2.out.size ?_; intro v1 w3 h3 h4 h5; have hb2 := Lib.hid (b2.out.grown h4 b2.out.size (fun k hk => (o2.out.lt k hk).1)); have hx := Lib.hid (x2.out.grown h4 (ne_arm2 V)); have x0 := hx.out.cell 0 _ rfl; have x1 := hx.out.cell 1 _ rfl; have x2_ := hx.out.cell 2 _ rfl; have y0 := hx.out.free 0 (by simp); have y1 := hx.out.free 1 (by simp); have y2 := hx.out.free 2 (by simp); have xl := hx.out.lt; rw [Nat.zero_add, List.nil_append] at h3; obtain ⟨B, cB, rfl, hSB, hNB⟩ := Sl.own h3 intE_len (by omega); replace hSB := Lib.hid hSB; replace hNB : Hid (∀ a, B = some a → V.heap.size ≤ a.block ∧ a.block < w3.heap.size) := Lib.hid (fun a e => h3.lt a.block (by rw [e]; rfl)); have hne : Hid (∀ a, B = some a → a.block ≠ V.heap.size + 1) := Lib.hid (arm_ne2 V h5); obtain ⟨m0, m1, m2⟩ := ((hT.out.below d0).below hb2.out).cells; have mlt := ((hT.out.below d0).below hb2.out).box.lt; clear h3 h4 h5) | (refine step_append_row (f := intE) rfl (.tmp 6) (.tmp 8) 33 2 rfl _ 8 Try.underlying33 info64 rfl (by decide) (by decide) intE_len intE_one V.drew.heap.size (.slice (some ⟨V.heap.size + 1, 0, none⟩) 0 0) 0 [] rfl o3.out V.drew.heap.size t.aa t.an t.ac t.av rfl hS.out.nil (Lib.hid hS.out.len) ((hS.out.below d0).at_.keep b3.out) (by omega) b3.out.size ?_; intro v1 w3 h3 h4 h5; have hb2 := Lib.hid (b3.out.grown h4 b3.out.size (fun k hk => (o3.out.lt k hk).1)); have hx := Lib.hid (x3.out.grown h4 (ne_arm3 V)); have x0 := hx.out.cell 0 _ rfl; have x1 := hx.out.cell 1 _ rfl; have x2_ := hx.out.cell 2 _ rfl; have y0 := hx.out.free 0 (by simp); have y1 := hx.out.free 1 (by simp); have y2 := hx.out.free 2 (by simp); have xl := hx.out.lt; rw [Nat.zero_add, List.nil_append] at h3; obtain ⟨B, cB, rfl, hSB, hNB⟩ := Sl.own h3 intE_len (by omega); replace hSB := Lib.hid hSB; replace hNB : Hid (∀ a, B = some a → V.heap.size ≤ a.block ∧ a.block < w3.heap.size) := Lib.hid (fun a e => h3.lt a.block (by rw [e]; rfl)); have hne : Hid (∀ a, B = some a → a.block ≠ V.heap.size) := Lib.hid (arm_ne3 V h5); obtain ⟨m0, m1, m2⟩ := ((hT.out.below d0).below hb2.out).cells; have mlt := ((hT.out.below d0).below hb2.out).box.lt; clear h3 h4 h5))
    all_goals
      go_wp2_with fail
      go_meet
    all_goals first
      | exact ⟨_, _, _, rfl, Lib.hid (copy_end1 hT.out (d0.trans hb2.out) hSB.out hNB.out)⟩
      | exact ⟨_, _, _, rfl, Lib.hid (copy_end2 hT.out (d0.trans hb2.out) hx.out (Nat.le_succ _) hSB.out hNB.out hne.out)⟩
      | exact ⟨_, _, _, rfl, Lib.hid (copy_end2 hT.out (d0.trans hb2.out) hx.out (Nat.le_refl _) hSB.out hNB.out hne.out)⟩
  case rest =>
    obtain ⟨tb, B, cB, rfl, hC⟩ := hcut
    clear k0 k1 k2 hS
    replace hlt := Lib.hid hlt
    go_wp2_with fail
    go_loopw [4] (fun i wr => ∃ k : Nat, k ≤ t.nn ∧ i = .int .i64 k ∧ ∃ v ms, Hid (CopyInv w V g tb t B cB v ms wr) ∧ Hid (ms.length = k)) (fun i _ => t.nn - (intOf i).toNat)
    case atStart => exact ⟨0, Nat.zero_le _, rfl, _, _, hC, Lib.hid rfl⟩
    case round =>
      clear hC
      obtain ⟨k, hk, rfl, v, ms, hC, hml⟩ := hrel
      obtain ⟨k0, k1, k2⟩ := hC.out.box.cells
      obtain ⟨A0, c0, ev, hS0, hN0⟩ := hC.out.grow.sl
      rw [hml.out] at ev hS0
      subst ev
      have t0 := hC.out.grow.head.cell 0 _ rfl
      have t1 := hC.out.grow.head.cell 1 _ rfl
      have t2 := hC.out.grow.head.cell 2 _ rfl
      have tlt := hC.out.grow.head.lt
      by_cases hlt2 : k < t.nn
      · have hlt3 : (k : Int) < (t.nn : Int) := by omega
        have hi1 : (0 : Int) ≤ (k : Int) := by omega
        obtain ⟨x, hx⟩ : ∃ x, t.ns[k]? = some x := ⟨_, List.getElem?_eq_getElem (by rw [← hln.out]; exact hlt2)⟩
        obtain ⟨-, -, -, l, hSl, -⟩ := h.out.nodes x (List.mem_of_getElem? hx)
        have hun := hu.out x (List.mem_of_getElem? hx)
        obtain ⟨a, ha, hab, ax⟩ := hC.out.box.at_.nodes.at_.atN hx
        rw [ha] at k0
        obtain ⟨L, hL⟩ : ∃ L, (nodeE x).toArray = L := ⟨_, rfl⟩
        have hL44 : L.size = 44 := by rw [← hL]; rfl
        have hLone : L.all (·.oneCell') = true := by rw [← hL]; exact nodeE_oneA x
        replace hL := Lib.hid hL
        replace hL44 := Lib.hid hL44
        replace hLone := Lib.hid hLone
        replace ax := Lib.hid ax
        replace hx := Lib.hid hx
        replace hSl := Lib.hid hSl
        clear t1 t2 hS0 hN0
        go_upto_region 6 with (first | (refine wpList_load_node (by rfl) _ rfl (a.add (k * 44)) rfl x L hL ax ?_) | (refine wpList_store_newN rfl _ _ rfl _ L rfl rfl rfl hL44.out hLone.out ?_))
        generalize hW : World.alloc wr _ = V2
        obtain ⟨hN, hb2, hC2⟩ : Box V2 wr.heap.size (nodeE x) ∧ Below wr.heap.size wr V2 ∧ True := by
          subst hW
          refine ⟨?_, (Below.refl _ _).alloc (Nat.le_refl _) _, trivial⟩
          have := Box.new wr (nodeE x) 49
          rw [hL.out] at this
          exact this
        obtain ⟨nb, hnb⟩ : ∃ nb, nb = wr.heap.size := ⟨_, rfl⟩
        rw [← hnb] at hN ⊢
        replace hnb := Lib.hid hnb
        clear hW hC2 k0 k1 k2 t0 hab ax
        have hlt4 := hN.lt
        have u43 : V2.cell? ⟨nb, 43, none⟩ = some (.slice x.s.ua x.s.un x.s.uc) := hN.cell 43 _ rfl
        have hS2 := Lib.hid (hSl.out.below (hC.out.below hb2).box.hb)
        have own0 := Lib.hid (World.ownsRow_lit (base := V2.heap.size) (e := 50) (size := 1) V2 #[] 0 (Nat.le_refl _) (Nat.zero_le _) (by rfl))
        have b0 := Lib.hid ((Below.refl V2.heap.size V2).alloc (Nat.le_refl _) (.cells #[] 50))
        have hbase : Hid (V2.heap.size ≤ (V2.alloc (.cells #[] 50)).heap.size) := Lib.hid (by simp)
        replace hN := Lib.hid hN
        replace hb2 := Lib.hid hb2
        go_upto_region 7 with (at_builtin; refine append_row (f := u16E) (l := []) rfl (.tmp 25) (.tmp 28) 26 50 rfl _ 2 Try.underlying26 infoU16 rfl (by decide) (by decide) u16E_len u16E_one V2.heap.size _ 0 rfl own0.out V2.heap.size x.s.ua x.s.un x.s.uc l rfl hS2.out.nil (Lib.hid hS2.out.len) (hS2.out.at_.keep b0.out) (by omega) hbase.out ?_; intro v1 w3 h3 h4 h5; have hb3 := Lib.hid (b0.out.grown h4 (by simp) (fun k hk => (own0.out.lt k hk).1)); obtain ⟨A1, c1, rfl, hS3, hN3⟩ := own_open2 h3; have hA3 : Hid (∀ a, A1 = some a → a.block < w3.heap.size) := Lib.hid (fun a e => (h3.lt a.block (by rw [e]; rfl)).2); replace hS3 := Lib.hid hS3; replace hN3 := Lib.hid hN3; clear h3 h4 h5; have p43 : w3.cell? ⟨nb, 43, none⟩ = some (.slice x.s.ua x.s.un x.s.uc) := (hN.out.below hb3.out).cell 43 _ rfl; have q43 := (hN.out.below hb3.out).free 43 (by rw [nodeE_len]; omega); have hlt5 := (hN.out.below hb3.out).lt)
        generalize hW : World.setCell w3 _ _ = w4
        obtain ⟨y, hy⟩ : ∃ y : NodeV, y = ⟨x.p, x.s.moved A1 c1⟩ := ⟨_, rfl⟩
        obtain ⟨hN4, hb4, hS4, hA4⟩ : Box w4 nb (nodeE y) ∧ Below wr.heap.size wr w4 ∧ Sl u16E w4 A1 x.s.un c1 l ∧ (∀ a, A1 = some a → a.block < w4.heap.size) := by
          subst hW
          subst hy
          have hbw := hb2.out.trans (hb3.out.mono hb2.out.size)
          have bu : But [nb] w3 (w3.setCell ⟨nb, 43, none⟩ (.slice A1 x.s.un c1)) := (But.refl _ _).set nb 43 (.inl (by simp)) _
          refine ⟨(hN.out.below hb3.out).set 43 (.slice A1 x.s.un c1) (by rw [nodeE_len]; omega), hbw.setCell (Nat.le_of_eq hnb.out.symm) _, hS3.out.but bu (fun a e => ?_), fun a e => ?_⟩
          · have := hN3.out a e
            simp
            omega
          · have := hA3.out a e
            simpa [World.setCell] using this
        have hC4 := hC.out.below hb4
        have hTw : Twin w w4 V.heap.size tb (Value.ownBlock (.slice A0 k c0)) x y := by
          refine ⟨A1, c1, l, hy, hS4, hSl.out, fun a e => ⟨?_, ?_, hA4 a e, by have h1 := hN3.out a e; have h3 := hb2.out.size; have h4 := hC.out.grow.hb.size; omega⟩⟩
          · have h1 := hN3.out a e
            have h2 := hC.out.grow.head.lt
            have h3 := hb2.out.size
            omega
          · have h1 := hN3.out a e
            have h3 := hb2.out.size
            intro h4
            have := (hC.out.grow.own.lt a.block h4.symm).2
            omega
        have t0 := hC4.grow.head.cell 0 _ rfl
        have tlt4 := hC4.grow.head.lt
        have hM : (nodeE y).toArray = #[.int .i64 x.p, .int .u8 x.s.kind, .bool x.s.flow, .int .u8 x.s.float, .int .u8 x.s.clear,  .int .u8 x.s.w.k, .int .i64 x.s.w.n, .int .u8 x.s.h.k, .int .i64 x.s.h.n, .int .u8 x.s.minW.k, .int .i64 x.s.minW.n, .int .u8 x.s.maxW.k, .int .i64 x.s.maxW.n, .int .u8 x.s.minH.k, .int .i64 x.s.minH.n, .int .u8 x.s.maxH.k, .int .i64 x.s.maxH.n,  .int .u8 x.s.m0.k, .int .i64 x.s.m0.n, .int .u8 x.s.m1.k, .int .i64 x.s.m1.n, .int .u8 x.s.m2.k, .int .i64 x.s.m2.n, .int .u8 x.s.m3.k, .int .i64 x.s.m3.n,  .int .i64 x.s.b0, .int .i64 x.s.b1, .int .i64 x.s.b2, .int .i64 x.s.b3, .int .i64 x.s.p0, .int .i64 x.s.p1, .int .i64 x.s.p2, .int .i64 x.s.p3,  .int .u8 x.s.align, .int .i64 x.s.line, .bool x.s.wrap, .int .u8 x.s.justify, .int .u8 x.s.items, .int .i64 x.s.order, .int .i64 x.s.grow, .int .i64 x.s.shrink,  .int .u8 x.s.basis.k, .int .i64 x.s.basis.n, .slice A1 x.s.un c1] := by rw [hy]; rfl
        have aN := Lib.hid (AtN.of hN4)
        have hown := Lib.hid hC4.grow.own
        rw [hml.out] at hown
        have hlit := hC4.grow.ready y _ rfl
        rw [show ([y].flatMap nodeE) = nodeE y by simp, hM, hml.out] at hlit
        have hput := Lib.hid (fun v' w' h3 h4 h5 => CopyInv.put (y := y) (v' := v') (w' := w') hC4 (.cells ((nodeE y).toArray) 49) (by rw [hml.out]; exact hx.out) hTw h3 h4 h5)
        rw [hml.out, hM] at hput
        replace hM := Lib.hid hM
        replace hlit := Lib.hid hlit
        replace hC4 := Lib.hid hC4
        replace hTw := Lib.hid hTw
        replace hy := Lib.hid hy
        clear hW hN4 hb4 hS4 hA4 p43 q43 hlt5 u43 hlt4 own0 b0 hbase hS2
        go_wp2_with (first | (refine wpList_load_node (by rfl) _ rfl ⟨nb, 0, none⟩ rfl y _ hM aN ?_) | (at_builtin; refine append_row (f := nodeE) rfl (.tmp 33) (.tmp 35) 32 49 rfl _ 328 Try.underlying32 infoNode2 rfl (by decide) (by decide) nodeE_len nodeE_one V.heap.size _ k ms rfl hlit.out.1 _ _ 1 1 [y] rfl (fun h => by cases h) (Lib.hid rfl) hlit.out.2.2.1 (by omega) hlit.out.2.1 ?_; intro v' w' h3 h4 h5; obtain ⟨A2, c2, rfl, -, -⟩ := Sl.own h3 nodeE_len (by omega); obtain ⟨hC5, cq, fq, lq⟩ := hput.out _ w' h3 h4 h5; replace hC5 := Lib.hid hC5; clear h3 h4 h5))
        go_roundw
        case rel => exact ⟨k + 1, by omega, by go_num, _, _, hC5, Lib.hid (by have := hml.out; simp; omega)⟩
        case measure => simp [intOf]; omega
      · have e : k = t.nn := by omega
        have i2 : ¬ (k : Int) < (t.nn : Int) := by omega
        have hR2 := hR.out.keep hC.out.grow.hb hlt2'.out
        obtain ⟨r0, r1, r2⟩ := And.intro (hR2.cell 0 _ rfl) (And.intro (hR2.cell 1 _ rfl) (hR2.cell 2 _ rfl))
        obtain ⟨f0, f1, f2⟩ := And.intro (hR2.free 0 (by simp)) (And.intro (hR2.free 1 (by simp)) (hR2.free 2 (by simp)))
        have rlt := hR2.lt
        rw [e] at hml t0 hC
        replace e := Lib.hid e
        go_wp2_with fail
        have hb5 := ((hR2.set 0 (.slice A0 t.nn c0) (by simp)).set 1 (.slice B t.an cB) (by simp)).set 2 (.int .i64 t.view) (by simp)
        have bu := (((But.refl [rb] wr).set rb 0 (.inl (by simp)) (.slice A0 t.nn c0)).set rb 1 (.inl (by simp)) (.slice B t.an cB)).set rb 2 (.inl (by simp)) (.int .i64 t.view)
        obtain ⟨A5, c5, e5, hT5, hO5⟩ := hC.out.done hml.out bu hlt2'.out
        simp at e5
        obtain ⟨rfl, rfl⟩ := e5
        have hw5 := (((hC.out.box.hb.setCell (p := ⟨rb, 0, none⟩) hrg (.slice A0 t.nn c0)).setCell (p := ⟨rb, 1, none⟩) hrg (.slice B t.an cB)).setCell (p := ⟨rb, 2, none⟩) hrg (.int .i64 t.view))
        generalize World.setCell (World.setCell (World.setCell wr _ _) _ _) _ _ = W5 at *
        have q0 := hb5.cell 0 _ rfl
        have q1 := hb5.cell 1 _ rfl
        have q2 := hb5.cell 2 _ rfl
        exact bodyPost_ret (v := .agg #[.slice A0 t.nn c0, .slice B t.an cB, .int .i64 t.view]) (by simp [results, Try.results17, go_sem, q0, q1, q2]) rfl ⟨A0, c0, B, cB, rfl, ms, hT5, hO5, hw5⟩
end Go.Proofs.Ytcgblbbadbkdgaa
