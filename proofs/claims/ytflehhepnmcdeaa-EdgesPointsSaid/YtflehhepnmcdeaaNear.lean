/-
  Contracts of the statements' own small functions near and moved; and covers of rectangles that are near.
-/
import Derived.Test.YtflehhepnmcdeaaWorks2
import Derived.Test.YtflehhepnmcdeaaView4
namespace Go.Proofs.Ytflehhepnmcdeaa
open Go.RowKit

def nearI (x : Int) : Prop := -1073741824 ≤ x ∧ x ≤ 1073741824
instance (x : Int) : Decidable (nearI x) := by unfold nearI; exact inferInstance
/-- Are a rectangle's numbers within 2^30? -/
def nearB (r : Four) : Bool := decide (nearI r.a ∧ nearI r.b ∧ nearI r.c ∧ nearI r.d)

theorem near_num {r : Four} {k : Nat} (hk : k < 4) (h : nearB r = true) : nearI (pick r k) := by
  unfold nearB at h
  have h := of_decide_eq_true h
  rcases (by omega : k = 0 ∨ k = 1 ∨ k = 2 ∨ k = 3) with rfl | rfl | rfl | rfl <;> simp [pick, h]
theorem near_of (r : Four) (h : ∀ k, k < 4 → nearI (pick r (k : Nat))) : nearB r = true := by
  unfold nearB
  exact decide_eq_true ⟨by simpa [pick] using h 0 (by omega), by simpa [pick] using h 1 (by omega), by simpa [pick] using h 2 (by omega), by simpa [pick] using h 3 (by omega)⟩
theorem four_num (r : Four) {k : Nat} (hk : k < 4) : (fourE r)[k]? = some (.int .i64 (pick r k)) := by
  rcases (by omega : k = 0 ∨ k = 1 ∨ k = 2 ∨ k = 3) with rfl | rfl | rfl | rfl <;> simp [fourE, pick]

set_option maxRecDepth 100000 in
theorem near_any (r : Four) (w : World) :
    Calls Try.prog 25 #[.agg #[.int .i64 r.a, .int .i64 r.b, .int .i64 r.c, .int .i64 r.d]] w fun e w' => e = .returned (.bool (nearB r)) ∧ Below w.heap.size w w' := by
  go_enter Try.func25, Try.ntmps25
  go_wp2_with fail
  generalize hW : World.alloc (World.alloc w _) _ = V
  obtain ⟨b1, hb⟩ : Box V (w.heap.size + 1) (fourE r) ∧ Below w.heap.size w V := by
    subst hW
    exact ⟨by simpa [fourE] using Box.new (w.alloc (.cells (fourE r).toArray 33)) (fourE r) 2, ((Below.refl _ _).alloc (Nat.le_refl _) _).alloc (by simp) _⟩
  clear hW
  go_loop [4] (fun i => ∃ k : Nat, k ≤ 4 ∧ i = .int .i64 k ∧ Hid (∀ j, j < k → nearI (pick r (j : Nat)))) (fun i => 4 - (intOf i).toNat)
  case atStart => exact ⟨0, Nat.zero_le _, rfl, Lib.hid (fun j hj => absurd hj (by omega))⟩
  case round =>
    obtain ⟨k, hk, rfl, hinv⟩ := hrel
    by_cases hlt : k < 4
    · have hi1 : (0 : Int) ≤ (k : Int) := by omega
      have hi2 : (k : Int) < 4 := by omega
      have hc := b1.cell k _ (four_num r hlt)
      have hno : Hid (¬ nearI (pick r k) → nearB r = false) := Lib.hid (fun hn => by
        rcases h : nearB r with _ | _
        · rfl
        · exact absurd (near_num hlt h) hn)
      have hnx : Hid (nearI (pick r k) → ∀ j, j < k + 1 → nearI (pick r (j : Nat))) := Lib.hid (fun hn j hj => by
        by_cases e : j = k
        · subst e; exact hn
        · exact hinv.out j (by omega))
      clear hinv
      generalize pick r k = x at *
      by_cases h1 : 1073741824 < x
      · have hr := Lib.hid (hno.out (by unfold nearI; omega))
        go_wp2_with fail
        go_ret
        exact ⟨by rw [hr.out]; rfl, hb⟩
      · by_cases h2 : x < -1073741824
        · have hr := Lib.hid (hno.out (by unfold nearI; omega))
          go_wp2_with fail
          go_ret
          exact ⟨by rw [hr.out]; rfl, hb⟩
        · have hnx := Lib.hid (hnx.out (by unfold nearI; omega))
          go_wp2_with fail
          go_round
          case rel => exact ⟨k + 1, by omega, by go_num, hnx⟩
          case measure => simp [intOf]; omega
    · have hr := Lib.hid (near_of r (fun j hj => hinv.out j (by omega)))
      go_wp2_with fail
      go_ret
      exact ⟨by rw [hr.out]; rfl, hb⟩

set_option maxRecDepth 100000 in
theorem moved_any (r : Four) (dx dy : Int) (w : World) (h1 : -1000000000000 ≤ r.a) (h2 : r.a ≤ 1000000000000) (h3 : -1000000000000 ≤ r.b) (h4 : r.b ≤ 1000000000000) (hx : -2147483648 ≤ dx) (hx' : dx ≤ 2147483647) (hy : -2147483648 ≤ dy) (hy' : dy ≤ 2147483647) :
    Calls Try.prog 26 #[.agg #[.int .i64 r.a, .int .i64 r.b, .int .i64 r.c, .int .i64 r.d], .int .i32 dx, .int .i32 dy] w fun e w' => e = .returned (.agg #[.int .i64 (r.a + dx), .int .i64 (r.b + dy), .int .i64 r.c, .int .i64 r.d]) ∧ Below w.heap.size w w' := by
  have hall := rect_all
  go_enter Try.func26, Try.ntmps26
  go_wp2_with fail
  generalize hW : World.alloc (World.alloc w _) _ = V
  obtain ⟨k3, hq6⟩ : Box V (w.heap.size + 1) [.int .i64 (r.a + dx), .int .i64 (r.b + dy), .int .i64 r.c, .int .i64 r.d] ∧ Below w.heap.size w V := by
    subst hW
    exact ⟨by simpa [fourE] using Box.new (w.alloc (.cells (fourE r).toArray 33)) [.int .i64 (r.a + dx), .int .i64 (r.b + dy), .int .i64 r.c, .int .i64 r.d] 33, ((Below.refl _ _).alloc (Nat.le_refl _) _).alloc (by simp) _⟩
  obtain ⟨q0, q1, q2, q3⟩ := k3.four
  clear hW
  exact bodyPost_ret (v := .agg #[.int .i64 (r.a + dx), .int .i64 (r.b + dy), .int .i64 r.c, .int .i64 r.d]) (by simp [results, Try.results26, go_sem, q0, q1, q2, q3]) rfl ⟨rfl, hq6⟩

/-- A cover. -/
def cov (l : List Four) : Four := ⟨coverX (l.filter somePts), coverY (l.filter somePts), coverW (l.filter somePts), coverH (l.filter somePts)⟩
/-- Not farther than 2^36. -/
def Mid (r : Four) : Prop := (-68719476736 ≤ r.a ∧ r.a ≤ 68719476736) ∧ (-68719476736 ≤ r.b ∧ r.b ≤ 68719476736) ∧ (-68719476736 ≤ r.c ∧ r.c ≤ 68719476736) ∧ (-68719476736 ≤ r.d ∧ r.d ≤ 68719476736)
theorem mid_of {r : Four} (h : nearB r = true) : Mid r := by
  have h := of_decide_eq_true h
  unfold nearI at h
  unfold Mid; omega
theorem mid_ok {r : Four} (h : Mid r) : FourOk r := by
  unfold Mid at h
  refine ⟨?_, ?_, ?_, ?_⟩ <;> (unfold I64; omega)
theorem least_mid (g : Four → Int) (l : List Four) (h : ∀ r ∈ l, -68719476736 ≤ g r ∧ g r ≤ 68719476736) : -68719476736 ≤ leastI g l ∧ leastI g l ≤ 68719476736 := by
  cases l with
  | nil => exact ⟨by show _ ≤ (0 : Int); omega, by show (0 : Int) ≤ _; omega⟩
  | cons x l =>
    obtain ⟨r, hr, e⟩ := leastI_mem g (l := x :: l) (by simp)
    rw [e]; exact h r hr
theorem most_mid (g : Four → Int) (l : List Four) (h : ∀ r ∈ l, g r ≤ 206158430208) : 0 ≤ mostI g l ∧ mostI g l ≤ 206158430208 := by
  refine ⟨mostI_pos g l, ?_⟩
  rcases mostI_mem g l with e | ⟨r, hr, e⟩
  · rw [e]; omega
  · rw [e]; exact h r hr
theorem cut_near {x : Int} (h : -1000000000000 ≤ x ∧ x ≤ 1000000000000) : cutI x = x ∧ farI x = false := by
  unfold cutI farI
  refine ⟨by rw [if_neg (by omega), if_neg (by omega)], by simp; omega⟩
theorem cov_mid (l : List Four) (h : ∀ r ∈ l, Mid r) : (-68719476736 ≤ (cov l).a ∧ (cov l).a ≤ 68719476736) ∧ (-68719476736 ≤ (cov l).b ∧ (cov l).b ≤ 68719476736) ∧ (0 ≤ (cov l).c ∧ (cov l).c ≤ 206158430208) ∧ (0 ≤ (cov l).d ∧ (cov l).d ≤ 206158430208) := by
  have hf : ∀ r ∈ l.filter somePts, Mid r := fun r hr => h r (List.mem_filter.1 hr).1
  have hx := least_mid (·.a) (l.filter somePts) (fun r hr => (hf r hr).1)
  have hy := least_mid (·.b) (l.filter somePts) (fun r hr => (hf r hr).2.1)
  refine ⟨hx, hy, most_mid _ _ (fun r hr => ?_), most_mid _ _ (fun r hr => ?_)⟩
  · have h1 := hf r hr
    unfold Mid at h1
    unfold coverX; omega
  · have h1 := hf r hr
    unfold Mid at h1
    unfold coverY; omega

/-- Of rectangles that are not far, the cover is exact. -/
theorem cover_mid (A : Option Addr) (n c : Nat) (l : List Four) (w : World) (h : Sl fourE w A n c l) (hm : ∀ r ∈ l, Mid r) (hn : n ≤ 100000) :
    Calls Try.prog 21 #[.slice A n c] w fun e w' => e = .returned (.tuple #[.agg #[.int .i64 (cov l).a, .int .i64 (cov l).b, .int .i64 (cov l).c, .int .i64 (cov l).d], .bool false]) ∧ Below w.heap.size w w' := by
  have hc := cov_mid l hm
  have e1 := cut_near (x := (cov l).a) (by omega)
  have e2 := cut_near (x := (cov l).b) (by omega)
  have e3 := cut_near (x := (cov l).c) (by omega)
  have e4 := cut_near (x := (cov l).d) (by omega)
  have hh := cover_any A n c l w h (fun r hr => mid_ok (hm r hr)) hn
  have hf : coverFar (l.filter somePts) = false := by
    show (farI (cov l).a || farI (cov l).b || farI (cov l).c || farI (cov l).d) = false
    rw [e1.2, e2.2, e3.2, e4.2]; rfl
  rw [hf] at hh
  refine hh.mono fun e w' ⟨he, hb⟩ => ⟨?_, hb⟩
  rw [he]
  show Ending.returned (.tuple #[.agg #[.int .i64 (cutI (cov l).a), .int .i64 (cutI (cov l).b), .int .i64 (cutI (cov l).c), .int .i64 (cutI (cov l).d)], .bool false]) = _
  rw [e1.1, e2.1, e3.1, e4.1]
end Go.Proofs.Ytflehhepnmcdeaa
