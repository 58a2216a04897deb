/-
  The program's walks of chapter 1's slowing down: the closed sum.
-/
import Derived.Test.YteodefmpkljedabSpecSlow
import Derived.Deep.RegionHeld3
import Derived.Deep.DrawnRows
import Derived.Deep.QuietTactic
import Derived.BigQuiet
import Derived.WalkSmall
namespace Go.Proofs.Yteodefmpkljedab
open Go.RowKit
attribute [local go_sem ↓] Go.wp_at_zero Go.wp_at_succ

theorem wrapIn {x : Int} (h : -1000000000000000 ≤ x) (g : x ≤ 1000000000000000) : IntKind.i64.wrap x = x := IntWalk.i64_in x ⟨by omega, by omega⟩

theorem bcell {W w1 : World} (hb : Below W.heap.size W w1) : (∀ b o, b < W.heap.size → w1.cell? ⟨b, o, none⟩ = W.cell? ⟨b, o, none⟩) ∧ (∀ b o, b < W.heap.size → w1.frozen? ⟨b, o, none⟩ = W.frozen? ⟨b, o, none⟩) :=
  ⟨fun b o h => hb.cell (p := ⟨b, o, none⟩) h, fun b o h => hb.frozen (p := ⟨b, o, none⟩) h⟩

theorem isSpeed_yes (x : Int) (w : World) (h : 0 ≤ x) (g : x ≤ 10000) :
    Calls Try.prog 56 #[.int .i64 x] w fun e w' => e = .returned (.bool true) ∧ w' = w := by
  go_enter Try.func56, Try.ntmps56
  go_wp2
  go_ret
  exact ⟨by simp, rfl⟩

theorem isSpeed_no (x : Int) (w : World) (h : x < 0 ∨ 10000 < x) :
    Calls Try.prog 56 #[.int .i64 x] w fun e w' => e = .returned (.bool false) ∧ w' = w := by
  by_cases g : 0 ≤ x
  · have g' : decide (x ≤ 10000) = false := by simp; omega
    clear h
    go_enter Try.func56, Try.ntmps56
    go_wp2
    go_ret
    exact ⟨by simp, rfl⟩
  · have g' : decide (0 ≤ x) = false := by simpa using g
    clear h
    go_enter Try.func56, Try.ntmps56
    go_wp2
    go_ret
    exact ⟨by simp, rfl⟩

theorem isBrake_yes (x : Int) (w : World) (h : 10 ≤ x) (g : x ≤ 1000) :
    Calls Try.prog 59 #[.int .i64 x] w fun e w' => e = .returned (.bool true) ∧ w' = w := by
  go_enter Try.func59, Try.ntmps59
  go_wp2
  go_ret
  exact ⟨by simp, rfl⟩

theorem isBrake_no (x : Int) (w : World) (h : x < 10 ∨ 1000 < x) :
    Calls Try.prog 59 #[.int .i64 x] w fun e w' => e = .returned (.bool false) ∧ w' = w := by
  by_cases g : 10 ≤ x
  · have g' : decide (x ≤ 1000) = false := by simp; omega
    clear h
    go_enter Try.func59, Try.ntmps59
    go_wp2
    go_ret
    exact ⟨by simp, rfl⟩
  · have g' : decide (10 ≤ x) = false := by simpa using g
    clear h
    go_enter Try.func59, Try.ntmps59
    go_wp2
    go_ret
    exact ⟨by simp, rfl⟩

theorem isDelay_yes (x : Int) (w : World) (h : 0 ≤ x) (g : x ≤ 20) :
    Calls Try.prog 72 #[.int .i64 x] w fun e w' => e = .returned (.bool true) ∧ w' = w := by
  go_enter Try.func72, Try.ntmps72
  go_wp2
  go_ret
  exact ⟨by simp, rfl⟩

theorem isDelay_no (x : Int) (w : World) (h : x < 0 ∨ 20 < x) :
    Calls Try.prog 72 #[.int .i64 x] w fun e w' => e = .returned (.bool false) ∧ w' = w := by
  by_cases g : 0 ≤ x
  · have g' : decide (x ≤ 20) = false := by simp; omega
    clear h
    go_enter Try.func72, Try.ntmps72
    go_wp2
    go_ret
    exact ⟨by simp, rfl⟩
  · have g' : decide (0 ≤ x) = false := by simpa using g
    clear h
    go_enter Try.func72, Try.ntmps72
    go_wp2
    go_ret
    exact ⟨by simp, rfl⟩

theorem isLength_yes (x : Int) (w : World) (h : 0 ≤ x) (g : x ≤ 100000000) :
    Calls Try.prog 55 #[.int .i64 x] w fun e w' => e = .returned (.bool true) ∧ w' = w := by
  go_enter Try.func55, Try.ntmps55
  go_wp2
  go_ret
  exact ⟨by simp, rfl⟩

theorem isLength_no (x : Int) (w : World) (h : x < 0 ∨ 100000000 < x) :
    Calls Try.prog 55 #[.int .i64 x] w fun e w' => e = .returned (.bool false) ∧ w' = w := by
  by_cases g : 0 ≤ x
  · have g' : decide (x ≤ 100000000) = false := by simp; omega
    clear h
    go_enter Try.func55, Try.ntmps55
    go_wp2
    go_ret
    exact ⟨by simp, rfl⟩
  · have g' : decide (0 ≤ x) = false := by simpa using g
    clear h
    go_enter Try.func55, Try.ntmps55
    go_wp2
    go_ret
    exact ⟨by simp, rfl⟩

set_option maxHeartbeats 400000 in
theorem wholeAndRest_any (v u b : Int) (w : World) (h : Right v u b) :
    Calls Try.prog 129 #[.agg #[.int .i64 v, .int .i64 u, .int .i64 b]] w fun e w' => e = .returned (.tuple #[.int .i64 (Slow.whole v u b), .int .i64 (Slow.rest v u b)]) ∧ Below w.heap.size w w' := by
  obtain ⟨hv, hv', hu, hu', hb, hb'⟩ := h
  go_enter Try.func129, Try.ntmps129
  go_wp2
  all_goals
    go_quiet (fail)
    go_wp2
    go_ret2
    refine ⟨ret_two ?_ ?_, below_drewN ((Below.refl _ _).alloc (Nat.le_refl _) _) _⟩
  · have : Slow.drop v u = 0 := by unfold Slow.drop; rw [if_pos (by omega)]
    simp [Slow.whole, this]
  · have : Slow.drop v u = 0 := by unfold Slow.drop; rw [if_pos (by omega)]
    simp [Slow.rest, this]
  · have : Slow.drop v u = v - u := by unfold Slow.drop; split <;> omega
    simp only [Slow.whole, this]
  · have : Slow.drop v u = v - u := by unfold Slow.drop; split <;> omega
    simp only [Slow.rest, this]

set_option maxHeartbeats 400000 in
theorem ticks_any (v u b : Int) (w : World) (h : Right v u b) :
    Calls Try.prog 130 #[.agg #[.int .i64 v, .int .i64 u, .int .i64 b]] w fun e w' => e = .returned (.int .i64 (Slow.ticks v u b)) ∧ Below w.heap.size w w' := by
  have f : Slow.Fits v u b := Slow.fits h.1 h.2.1 h.2.2.1 h.2.2.2.1 h.2.2.2.2.1 h.2.2.2.2.2
  have f1 := f.w0
  have f2 := f.w1
  have H : Hid (Right v u b) := h
  clear h f
  by_cases c : 0 < Slow.rest v u b
  · have ht : Hid (Slow.ticks v u b = Slow.whole v u b + 1) := by show Slow.ticks v u b = _; unfold Slow.ticks; rw [if_pos c]
    go_enter Try.func130, Try.ntmps130
    go_wp2_with (go_at_call 129; refine (wholeAndRest_any _ _ _ _ H.out).mono ?_; rintro e w' ⟨rfl, hb⟩)
    go_ret
    exact ⟨ret_int ht.out.symm, ((Below.refl _ _).alloc (Nat.le_refl _) _).trans (hb.mono (by simp))⟩
  · have ht : Hid (Slow.ticks v u b = Slow.whole v u b) := by show Slow.ticks v u b = _; unfold Slow.ticks; rw [if_neg c]
    go_enter Try.func130, Try.ntmps130
    go_wp2_with (go_at_call 129; refine (wholeAndRest_any _ _ _ _ H.out).mono ?_; rintro e w' ⟨rfl, hb⟩)
    go_ret
    exact ⟨ret_int ht.out.symm, ((Below.refl _ _).alloc (Nat.le_refl _) _).trans (hb.mono (by simp))⟩

set_option maxHeartbeats 400000 in
theorem length_any (v u b : Int) (w : World) (h : Right v u b) :
    Calls Try.prog 108 #[.agg #[.int .i64 v, .int .i64 u, .int .i64 b]] w fun e w' => e = .returned (.int .i64 (Slow.len v u b)) ∧ Below w.heap.size w w' := by
  have f : Slow.Fits v u b := Slow.fits h.1 h.2.1 h.2.2.1 h.2.2.2.1 h.2.2.2.2.1 h.2.2.2.2.2
  have f1 := f.w0
  have f2 := f.w1
  have f3 := f.r0
  have f4 := f.r1
  have f5 := f.t0
  have f6 := f.t1
  have f7 := f.tu0
  have f8 := f.tu1
  have f9 := f.wr0
  have f10 := f.wr1
  have f11 := f.bw0
  have f12 := f.bw1
  have f13 := f.bww0
  have f14 := f.bww1
  have H : Hid (Right v u b) := h
  clear h f
  go_enter Try.func108, Try.ntmps108
  go_wp2_with (go_at_call 129; refine (wholeAndRest_any _ _ _ _ H.out).mono ?_; rintro e w' ⟨rfl, hb⟩)
  obtain ⟨hc, hf⟩ := bcell hb
  have hz : w.heap.size + 1 ≤ w'.heap.size := by have := hb.size; simpa using this
  have c0 : w'.cell? ⟨w.heap.size, 0, none⟩ = some (.int .i64 v) := by rw [hc _ _ (by simp)]; go_simp
  have c1 : w'.cell? ⟨w.heap.size, 1, none⟩ = some (.int .i64 u) := by rw [hc _ _ (by simp)]; go_simp
  have c2 : w'.cell? ⟨w.heap.size, 2, none⟩ = some (.int .i64 b) := by rw [hc _ _ (by simp)]; go_simp
  have hb1 : Below w.heap.size w w' := ((Below.refl _ _).alloc (Nat.le_refl _) _).trans (hb.mono (by simp))
  clear hb hc hf
  go_region_held3 (fun x => x.cell? ⟨w.heap.size, 0, none⟩ = some (.int .i64 v) ∧ x.cell? ⟨w.heap.size, 1, none⟩ = some (.int .i64 u) ∧ x.cell? ⟨w.heap.size, 2, none⟩ = some (.int .i64 b)) (first | go_keep | (go_split_ands; refine ⟨?_, ?_, ?_⟩ <;> (rw [hb2.cell (by simp; omega)]; assumption)))
    ((go_at_call 130; refine (ticks_any _ _ _ _ H.out).mono ?_; rintro e w2 ⟨rfl, hb2⟩))
  all_goals go_wp2
  go_ret
  refine ⟨ret_int ?_, hb1.drew.trans (hb2.mono (by simp; omega))⟩
  unfold Slow.len
  rw [wrapIn (x := Slow.ticks v u b * u) (by omega) (by omega), wrapIn (x := Slow.whole v u b * Slow.rest v u b) (by omega) (by omega), wrapIn (x := b * Slow.whole v u b) (by omega) (by omega), wrapIn (x := Slow.whole v u b - 1) (by omega) (by omega), wrapIn (x := b * Slow.whole v u b * (Slow.whole v u b - 1)) (by omega) (by omega), Int.tdiv_eq_ediv_of_nonneg (by omega)]
  rw [wrapIn (x := Slow.ticks v u b * u + Slow.whole v u b * Slow.rest v u b) (by omega) (by omega), wrapIn (x := b * Slow.whole v u b * (Slow.whole v u b - 1) / 2) (by omega) (by omega), wrapIn (by omega) (by omega)]

end Go.Proofs.Yteodefmpkljedab
