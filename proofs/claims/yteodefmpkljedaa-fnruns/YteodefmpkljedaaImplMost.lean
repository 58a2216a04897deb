/-
  The program's walks of chapter 1's slowing down: the closed sum.
  The program's walks of MostSpeed and LeastBrake: a search by halves with a function value.
-/
import Derived.Test.YteodefmpkljedaaSpecSlow
import Derived.Deep.RegionHeld3
import Derived.Deep.DrawnRows
import Derived.Deep.QuietTactic
import Derived.BigQuiet
import Derived.WalkSmall
namespace Go.Proofs.Yteodefmpkljedaa
open Go.RowKit
attribute [local go_sem ↓] Go.wp_at_zero Go.wp_at_succ

theorem wrapIn {x : Int} (h : -1000000000000000 ≤ x) (g : x ≤ 1000000000000000) : IntKind.i64.wrap x = x := IntWalk.i64_in x ⟨by omega, by omega⟩

theorem bcell {W w1 : World} (hb : Below W.heap.size W w1) : (∀ b o, b < W.heap.size → w1.cell? ⟨b, o, none⟩ = W.cell? ⟨b, o, none⟩) ∧ (∀ b o, b < W.heap.size → w1.frozen? ⟨b, o, none⟩ = W.frozen? ⟨b, o, none⟩) :=
  ⟨fun b o h => hb.cell (p := ⟨b, o, none⟩) h, fun b o h => hb.frozen (p := ⟨b, o, none⟩) h⟩

theorem isSpeed_yes (x : Int) (w : World) (h : 0 ≤ x) (g : x ≤ 10000) :
    Calls Try.prog 55 #[.int .i64 x] w fun e w' => e = .returned (.bool true) ∧ w' = w := by
  go_enter Try.func55, Try.ntmps55
  go_wp2
  go_ret
  exact ⟨by simp, rfl⟩

theorem isSpeed_no (x : Int) (w : World) (h : x < 0 ∨ 10000 < x) :
    Calls Try.prog 55 #[.int .i64 x] w fun e w' => e = .returned (.bool false) ∧ w' = w := by
  by_cases g : 0 ≤ x
  · have g' : decide (x ≤ 10000) = false := by simp; omega
    clear h
    go_enter Try.func55, Try.ntmps55
    go_wp2
    go_ret
    exact ⟨by simp, rfl⟩
  · have g' : decide (0 ≤ x) = false := by simpa using g
    clear h
    go_enter Try.func55, Try.ntmps55
    go_wp2
    go_ret
    exact ⟨by simp, rfl⟩

theorem isBrake_yes (x : Int) (w : World) (h : 10 ≤ x) (g : x ≤ 1000) :
    Calls Try.prog 56 #[.int .i64 x] w fun e w' => e = .returned (.bool true) ∧ w' = w := by
  go_enter Try.func56, Try.ntmps56
  go_wp2
  go_ret
  exact ⟨by simp, rfl⟩

theorem isBrake_no (x : Int) (w : World) (h : x < 10 ∨ 1000 < x) :
    Calls Try.prog 56 #[.int .i64 x] w fun e w' => e = .returned (.bool false) ∧ w' = w := by
  by_cases g : 10 ≤ x
  · have g' : decide (x ≤ 1000) = false := by simp; omega
    clear h
    go_enter Try.func56, Try.ntmps56
    go_wp2
    go_ret
    exact ⟨by simp, rfl⟩
  · have g' : decide (10 ≤ x) = false := by simpa using g
    clear h
    go_enter Try.func56, Try.ntmps56
    go_wp2
    go_ret
    exact ⟨by simp, rfl⟩

theorem isDelay_yes (x : Int) (w : World) (h : 0 ≤ x) (g : x ≤ 20) :
    Calls Try.prog 57 #[.int .i64 x] w fun e w' => e = .returned (.bool true) ∧ w' = w := by
  go_enter Try.func57, Try.ntmps57
  go_wp2
  go_ret
  exact ⟨by simp, rfl⟩

theorem isDelay_no (x : Int) (w : World) (h : x < 0 ∨ 20 < x) :
    Calls Try.prog 57 #[.int .i64 x] w fun e w' => e = .returned (.bool false) ∧ w' = w := by
  by_cases g : 0 ≤ x
  · have g' : decide (x ≤ 20) = false := by simp; omega
    clear h
    go_enter Try.func57, Try.ntmps57
    go_wp2
    go_ret
    exact ⟨by simp, rfl⟩
  · have g' : decide (0 ≤ x) = false := by simpa using g
    clear h
    go_enter Try.func57, Try.ntmps57
    go_wp2
    go_ret
    exact ⟨by simp, rfl⟩

theorem isLength_yes (x : Int) (w : World) (h : 0 ≤ x) (g : x ≤ 100000000) :
    Calls Try.prog 54 #[.int .i64 x] w fun e w' => e = .returned (.bool true) ∧ w' = w := by
  go_enter Try.func54, Try.ntmps54
  go_wp2
  go_ret
  exact ⟨by simp, rfl⟩

theorem isLength_no (x : Int) (w : World) (h : x < 0 ∨ 100000000 < x) :
    Calls Try.prog 54 #[.int .i64 x] w fun e w' => e = .returned (.bool false) ∧ w' = w := by
  by_cases g : 0 ≤ x
  · have g' : decide (x ≤ 100000000) = false := by simp; omega
    clear h
    go_enter Try.func54, Try.ntmps54
    go_wp2
    go_ret
    exact ⟨by simp, rfl⟩
  · have g' : decide (0 ≤ x) = false := by simpa using g
    clear h
    go_enter Try.func54, Try.ntmps54
    go_wp2
    go_ret
    exact ⟨by simp, rfl⟩

set_option maxHeartbeats 400000 in
theorem wholeAndRest_any (v u b : Int) (w : World) (h : Right v u b) :
    Calls Try.prog 102 #[.agg #[.int .i64 v, .int .i64 u, .int .i64 b]] w fun e w' => e = .returned (.tuple #[.int .i64 (Slow.whole v u b), .int .i64 (Slow.rest v u b)]) ∧ Below w.heap.size w w' := by
  obtain ⟨hv, hv', hu, hu', hb, hb'⟩ := h
  go_enter Try.func102, Try.ntmps102
  go_wp2
  all_goals
    go_quiet (fail)
    go_wp2
    go_ret2
    refine ⟨ret_two ?_ ?_, below_drewN ((Below.refl _ _).alloc (Nat.le_refl _) _) _⟩
  · have : Slow.drop v u = 0 := by unfold Slow.drop; rw [if_pos (by omega)]
    simp [Slow.whole, this]
  · have : Slow.drop v u = 0 := by unfold Slow.drop; rw [if_pos (by omega)]
    simp [Slow.rest, this]
  · have : Slow.drop v u = v - u := by unfold Slow.drop; split <;> omega
    simp only [Slow.whole, this]
  · have : Slow.drop v u = v - u := by unfold Slow.drop; split <;> omega
    simp only [Slow.rest, this]

set_option maxHeartbeats 400000 in
theorem ticks_any (v u b : Int) (w : World) (h : Right v u b) :
    Calls Try.prog 67 #[.agg #[.int .i64 v, .int .i64 u, .int .i64 b]] w fun e w' => e = .returned (.int .i64 (Slow.ticks v u b)) ∧ Below w.heap.size w w' := by
  have f : Slow.Fits v u b := Slow.fits h.1 h.2.1 h.2.2.1 h.2.2.2.1 h.2.2.2.2.1 h.2.2.2.2.2
  have f1 := f.w0
  have f2 := f.w1
  have H : Hid (Right v u b) := h
  clear h f
  by_cases c : 0 < Slow.rest v u b
  · have ht : Hid (Slow.ticks v u b = Slow.whole v u b + 1) := by show Slow.ticks v u b = _; unfold Slow.ticks; rw [if_pos c]
    go_enter Try.func67, Try.ntmps67
    go_wp2_with (go_at_call 102; refine (wholeAndRest_any _ _ _ _ H.out).mono ?_; rintro e w' ⟨rfl, hb⟩)
    go_ret
    exact ⟨ret_int ht.out.symm, ((Below.refl _ _).alloc (Nat.le_refl _) _).trans (hb.mono (by simp))⟩
  · have ht : Hid (Slow.ticks v u b = Slow.whole v u b) := by show Slow.ticks v u b = _; unfold Slow.ticks; rw [if_neg c]
    go_enter Try.func67, Try.ntmps67
    go_wp2_with (go_at_call 102; refine (wholeAndRest_any _ _ _ _ H.out).mono ?_; rintro e w' ⟨rfl, hb⟩)
    go_ret
    exact ⟨ret_int ht.out.symm, ((Below.refl _ _).alloc (Nat.le_refl _) _).trans (hb.mono (by simp))⟩

set_option maxHeartbeats 400000 in
theorem length_any (v u b : Int) (w : World) (h : Right v u b) :
    Calls Try.prog 66 #[.agg #[.int .i64 v, .int .i64 u, .int .i64 b]] w fun e w' => e = .returned (.int .i64 (Slow.len v u b)) ∧ Below w.heap.size w w' := by
  have f : Slow.Fits v u b := Slow.fits h.1 h.2.1 h.2.2.1 h.2.2.2.1 h.2.2.2.2.1 h.2.2.2.2.2
  have f1 := f.w0
  have f2 := f.w1
  have f3 := f.r0
  have f4 := f.r1
  have f5 := f.t0
  have f6 := f.t1
  have f7 := f.tu0
  have f8 := f.tu1
  have f9 := f.wr0
  have f10 := f.wr1
  have f11 := f.bw0
  have f12 := f.bw1
  have f13 := f.bww0
  have f14 := f.bww1
  have H : Hid (Right v u b) := h
  clear h f
  go_enter Try.func66, Try.ntmps66
  go_wp2_with (go_at_call 102; refine (wholeAndRest_any _ _ _ _ H.out).mono ?_; rintro e w' ⟨rfl, hb⟩)
  obtain ⟨hc, hf⟩ := bcell hb
  have hz : w.heap.size + 1 ≤ w'.heap.size := by have := hb.size; simpa using this
  have c0 : w'.cell? ⟨w.heap.size, 0, none⟩ = some (.int .i64 v) := by rw [hc _ _ (by simp)]; go_simp
  have c1 : w'.cell? ⟨w.heap.size, 1, none⟩ = some (.int .i64 u) := by rw [hc _ _ (by simp)]; go_simp
  have c2 : w'.cell? ⟨w.heap.size, 2, none⟩ = some (.int .i64 b) := by rw [hc _ _ (by simp)]; go_simp
  have hb1 : Below w.heap.size w w' := ((Below.refl _ _).alloc (Nat.le_refl _) _).trans (hb.mono (by simp))
  clear hb hc hf
  go_region_held3 (fun x => x.cell? ⟨w.heap.size, 0, none⟩ = some (.int .i64 v) ∧ x.cell? ⟨w.heap.size, 1, none⟩ = some (.int .i64 u) ∧ x.cell? ⟨w.heap.size, 2, none⟩ = some (.int .i64 b)) (first | go_keep | (go_split_ands; refine ⟨?_, ?_, ?_⟩ <;> (rw [hb2.cell (by simp; omega)]; assumption)))
    ((go_at_call 67; refine (ticks_any _ _ _ _ H.out).mono ?_; rintro e w2 ⟨rfl, hb2⟩))
  all_goals go_wp2
  go_ret
  refine ⟨ret_int ?_, hb1.drew.trans (hb2.mono (by simp; omega))⟩
  unfold Slow.len
  rw [wrapIn (x := Slow.ticks v u b * u) (by omega) (by omega), wrapIn (x := Slow.whole v u b * Slow.rest v u b) (by omega) (by omega), wrapIn (x := b * Slow.whole v u b) (by omega) (by omega), wrapIn (x := Slow.whole v u b - 1) (by omega) (by omega), wrapIn (x := b * Slow.whole v u b * (Slow.whole v u b - 1)) (by omega) (by omega), Int.tdiv_eq_ediv_of_nonneg (by omega)]
  rw [wrapIn (x := Slow.ticks v u b * u + Slow.whole v u b * Slow.rest v u b) (by omega) (by omega), wrapIn (x := b * Slow.whole v u b * (Slow.whole v u b - 1) / 2) (by omega) (by omega), wrapIn (by omega) (by omega)]

set_option maxHeartbeats 400000 in
theorem isRight_yes (v u b : Int) (w : World) (h : Right v u b) :
    Calls Try.prog 65 #[.agg #[.int .i64 v, .int .i64 u, .int .i64 b]] w fun e w' => e = .returned (.bool true) ∧ Below w.heap.size w w' := by
  obtain ⟨hv, hv', hu, hu', hb, hb'⟩ := h
  go_enter Try.func65, Try.ntmps65
  go_wp2_with (first | (go_at_call 55; refine (isSpeed_yes _ _ (by omega) (by omega)).mono ?_; rintro e w' ⟨rfl, rfl⟩) | (go_at_call 56; refine (isBrake_yes _ _ (by omega) (by omega)).mono ?_; rintro e w' ⟨rfl, rfl⟩))
  go_ret
  exact ⟨rfl, (Below.refl _ _).alloc (Nat.le_refl _) _⟩

set_option maxHeartbeats 400000 in
theorem isRight_no (v u b : Int) (w : World) (h : ¬ Right v u b) :
    Calls Try.prog 65 #[.agg #[.int .i64 v, .int .i64 u, .int .i64 b]] w fun e w' => e = .returned (.bool false) ∧ Below w.heap.size w w' := by
  by_cases g : 0 ≤ v ∧ v ≤ 10000
  · by_cases g2 : 0 ≤ u ∧ u ≤ 10000
    · have g3 : b < 10 ∨ 1000 < b := by unfold Right at h; omega
      clear h
      go_enter Try.func65, Try.ntmps65
      go_wp2_with (first | (go_at_call 55; refine (isSpeed_yes _ _ (by omega) (by omega)).mono ?_; rintro e w' ⟨rfl, rfl⟩) | (go_at_call 56; refine (isBrake_no _ _ (by omega)).mono ?_; rintro e w' ⟨rfl, rfl⟩))
      go_ret
      exact ⟨rfl, (Below.refl _ _).alloc (Nat.le_refl _) _⟩
    · clear h
      go_enter Try.func65, Try.ntmps65
      go_wp2_with (go_at_call 55; first | (refine (isSpeed_yes _ _ (by omega) (by omega)).mono ?_; rintro e w' ⟨rfl, rfl⟩) | (refine (isSpeed_no _ _ (by omega)).mono ?_; rintro e w' ⟨rfl, rfl⟩))
      go_ret
      exact ⟨rfl, (Below.refl _ _).alloc (Nat.le_refl _) _⟩
  · clear h
    go_enter Try.func65, Try.ntmps65
    go_wp2_with (go_at_call 55; refine (isSpeed_no _ _ (by omega)).mono ?_; rintro e w' ⟨rfl, rfl⟩)
    go_ret
    exact ⟨rfl, (Below.refl _ _).alloc (Nat.le_refl _) _⟩

set_option maxHeartbeats 400000 in
theorem implSlowLen_right (v u b : Int) (w : World) (h : Right v u b) :
    Calls Try.prog 25 #[.int .i64 v, .int .i64 u, .int .i64 b] w fun e w' => e = .returned (.int .i64 (Slow.len v u b)) ∧ Below w.heap.size w w' := by
  have H : Hid (Right v u b) := h
  clear h
  go_enter Try.func25, Try.ntmps25
  go_wp2_with (go_at_call 65; refine (isRight_yes _ _ _ _ H.out).mono ?_; rintro e w1 ⟨rfl, hb1⟩; obtain ⟨hc, hf⟩ := bcell hb1)
  go_wp2_with (go_at_call 66; refine (length_any _ _ _ _ H.out).mono ?_; rintro e w2 ⟨rfl, hb2⟩)
  go_ret
  have hz := hb1.size
  exact ⟨rfl, ((((Below.refl _ _).alloc (Nat.le_refl _) _).trans (hb1.mono (by simp))).trans (hb2.mono (by simp at hz; omega)))⟩

set_option maxHeartbeats 400000 in
theorem implSlowLen_wrong (v u b : Int) (w : World) (h : ¬ Right v u b) :
    Calls Try.prog 25 #[.int .i64 v, .int .i64 u, .int .i64 b] w fun e w' => e = .returned (.int .i64 (-1)) ∧ Below w.heap.size w w' := by
  have H : Hid (¬ Right v u b) := h
  clear h
  go_enter Try.func25, Try.ntmps25
  go_wp2_with (go_at_call 65; refine (isRight_no _ _ _ _ H.out).mono ?_; rintro e w1 ⟨rfl, hb1⟩)
  go_ret
  exact ⟨rfl, ((Below.refl _ _).alloc (Nat.le_refl _) _).trans (hb1.mono (by simp))⟩

set_option maxHeartbeats 400000 in
theorem implSlowTicks_right (v u b : Int) (w : World) (h : Right v u b) :
    Calls Try.prog 26 #[.int .i64 v, .int .i64 u, .int .i64 b] w fun e w' => e = .returned (.int .i64 (Slow.ticks v u b)) ∧ Below w.heap.size w w' := by
  have H : Hid (Right v u b) := h
  clear h
  go_enter Try.func26, Try.ntmps26
  go_wp2_with (go_at_call 65; refine (isRight_yes _ _ _ _ H.out).mono ?_; rintro e w1 ⟨rfl, hb1⟩; obtain ⟨hc, hf⟩ := bcell hb1)
  go_wp2_with (go_at_call 67; refine (ticks_any _ _ _ _ H.out).mono ?_; rintro e w2 ⟨rfl, hb2⟩)
  go_ret
  have hz := hb1.size
  exact ⟨rfl, ((((Below.refl _ _).alloc (Nat.le_refl _) _).trans (hb1.mono (by simp))).trans (hb2.mono (by simp at hz; omega)))⟩

set_option maxHeartbeats 400000 in
theorem implSlowTicks_wrong (v u b : Int) (w : World) (h : ¬ Right v u b) :
    Calls Try.prog 26 #[.int .i64 v, .int .i64 u, .int .i64 b] w fun e w' => e = .returned (.int .i64 (-1)) ∧ Below w.heap.size w w' := by
  have H : Hid (¬ Right v u b) := h
  clear h
  go_enter Try.func26, Try.ntmps26
  go_wp2_with (go_at_call 65; refine (isRight_no _ _ _ _ H.out).mono ?_; rintro e w1 ⟨rfl, hb1⟩)
  go_ret
  exact ⟨rfl, ((Below.refl _ _).alloc (Nat.le_refl _) _).trans (hb1.mono (by simp))⟩

end Go.Proofs.Yteodefmpkljedaa

namespace Go.Proofs.Yteodefmpkljedaa
open Go.RowKit
attribute [local go_sem ↓] Go.wp_at_zero Go.wp_at_succ
set_option linter.unusedVariables false

theorem ret_bool {a b : Bool} (h : a = b) : Ending.returned (.bool a) = .returned (.bool b) := by rw [h]

def tooFast (room u b d x : Int) : Bool := decide (room < d * x + Slow.len x u b)

set_option maxHeartbeats 400000 in
theorem isTooFast_any (room u b d x : Int) (w : World) (h : Right x u b) (hd : 0 ≤ d) (hd' : d ≤ 20) (hr : 0 ≤ room) (hr' : room ≤ 100000000) :
    Calls Try.prog 59 #[.agg #[.int .i64 room, .int .i64 u, .int .i64 b, .int .i64 d], .int .i64 x] w fun e w' => e = .returned (.bool (tooFast room u b d x)) ∧ Below w.heap.size w w' := by
  have hdx0 : 0 ≤ d * x := Int.mul_nonneg hd h.1
  have hdx1 : d * x ≤ 200000 := by have := Int.mul_le_mul hd' h.2.1 h.1 (by omega); omega
  have hl := Slow.len_bounds h.1 h.2.1 h.2.2.1 h.2.2.2.1 h.2.2.2.2.1 h.2.2.2.2.2
  obtain ⟨hl0, hl1⟩ := hl
  have H : Hid (Right x u b) := h
  clear h
  go_enter Try.func59, Try.ntmps59
  go_wp2
  generalize hW : (w.alloc _).alloc _ = W
  have c0 : W.cell? ⟨w.heap.size, 0, none⟩ = some (.int .i64 room) := by subst hW; go_simp
  have c3 : W.cell? ⟨w.heap.size, 3, none⟩ = some (.int .i64 d) := by subst hW; go_simp
  have e0 : W.cell? ⟨w.heap.size + 1, 0, none⟩ = some (.int .i64 x) := by subst hW; go_simp
  have e1 : W.cell? ⟨w.heap.size + 1, 1, none⟩ = some (.int .i64 u) := by subst hW; go_simp
  have e2 : W.cell? ⟨w.heap.size + 1, 2, none⟩ = some (.int .i64 b) := by subst hW; go_simp
  have hz : w.heap.size + 2 ≤ W.heap.size := by rw [← hW]; simp
  have hb1 : Below w.heap.size w W := by rw [← hW]; exact ((Below.refl _ _).alloc (Nat.le_refl _) _).alloc (by simp) _
  clear hW
  go_region_held3 (fun y => y.cell? ⟨w.heap.size, 0, none⟩ = some (.int .i64 room) ∧ y.cell? ⟨w.heap.size, 3, none⟩ = some (.int .i64 d) ∧ y.cell? ⟨w.heap.size + 1, 0, none⟩ = some (.int .i64 x) ∧ y.cell? ⟨w.heap.size + 1, 1, none⟩ = some (.int .i64 u) ∧ y.cell? ⟨w.heap.size + 1, 2, none⟩ = some (.int .i64 b)) (first | go_keep | (go_split_ands; refine ⟨?_, ?_, ?_, ?_, ?_⟩ <;> (rw [hb2.cell (by simp; omega)]; assumption)))
    ((go_at_call 66; refine (length_any _ _ _ _ H.out).mono ?_; rintro e w2 ⟨rfl, hb2⟩))
  all_goals go_wp2
  go_ret
  refine ⟨?_, hb1.drew.trans (hb2.mono (by simp; omega))⟩
  refine ret_bool ?_
  unfold tooFast
  rw [wrapIn (x := d * x) (by omega) (by omega), wrapIn (by omega) (by omega)]

def metBy (room v u x : Int) : Bool := decide (Slow.len v u x ≤ room)

set_option maxHeartbeats 400000 in
theorem isMetBy_any (room v u x : Int) (w : World) (h : Right v u x) (hr : 0 ≤ room) (hr' : room ≤ 100000000) :
    Calls Try.prog 64 #[.agg #[.int .i64 room, .int .i64 v, .int .i64 u], .int .i64 x] w fun e w' => e = .returned (.bool (metBy room v u x)) ∧ Below w.heap.size w w' := by
  have hl := Slow.len_bounds h.1 h.2.1 h.2.2.1 h.2.2.2.1 h.2.2.2.2.1 h.2.2.2.2.2
  obtain ⟨hl0, hl1⟩ := hl
  have H : Hid (Right v u x) := h
  clear h
  go_enter Try.func64, Try.ntmps64
  go_wp2
  generalize hW : (w.alloc _).alloc _ = W
  have c0 : W.cell? ⟨w.heap.size, 0, none⟩ = some (.int .i64 room) := by subst hW; go_simp
  have e0 : W.cell? ⟨w.heap.size + 1, 0, none⟩ = some (.int .i64 v) := by subst hW; go_simp
  have e1 : W.cell? ⟨w.heap.size + 1, 1, none⟩ = some (.int .i64 u) := by subst hW; go_simp
  have e2 : W.cell? ⟨w.heap.size + 1, 2, none⟩ = some (.int .i64 x) := by subst hW; go_simp
  have hz : w.heap.size + 2 ≤ W.heap.size := by rw [← hW]; simp
  have hb1 : Below w.heap.size w W := by rw [← hW]; exact ((Below.refl _ _).alloc (Nat.le_refl _) _).alloc (by simp) _
  clear hW
  go_region_held3 (fun y => y.cell? ⟨w.heap.size, 0, none⟩ = some (.int .i64 room) ∧ y.cell? ⟨w.heap.size + 1, 0, none⟩ = some (.int .i64 v) ∧ y.cell? ⟨w.heap.size + 1, 1, none⟩ = some (.int .i64 u) ∧ y.cell? ⟨w.heap.size + 1, 2, none⟩ = some (.int .i64 x)) (first | go_keep | (go_split_ands; refine ⟨?_, ?_, ?_, ?_⟩ <;> (rw [hb2.cell (by simp; omega)]; assumption)))
    ((go_at_call 66; refine (length_any _ _ _ _ H.out).mono ?_; rintro e w2 ⟨rfl, hb2⟩))
  all_goals go_wp2
  go_ret
  exact ⟨ret_bool rfl, hb1.drew.trans (hb2.mono (by simp; omega))⟩

/-- A search by halves: what it finds. -/
def Found (p : Int → Bool) (lo hi m : Int) : Prop := lo ≤ m ∧ m ≤ hi ∧ (∀ x, lo ≤ x → x < m → p x = false) ∧ (∀ x, m ≤ x → x < hi → p x = true)
theorem Found.start {p : Int → Bool} {lo hi : Int} : (∀ x, lo ≤ x → x < lo → p x = false) ∧ (∀ x, hi ≤ x → x < hi → p x = true) := ⟨fun _ h g => by omega, fun _ h g => by omega⟩

set_option maxHeartbeats 1000000 in
theorem leastTooFast_any (room u b d : Int) (w : World) (hu : 0 ≤ u) (hu' : u ≤ 10000) (hb : 10 ≤ b) (hb' : b ≤ 1000) (hd : 0 ≤ d) (hd' : d ≤ 20) (hr : 0 ≤ room) (hr' : room ≤ 100000000)
    (mono : Hid (∀ x y, 0 ≤ x → x ≤ y → y < 10001 → tooFast room u b d x = true → tooFast room u b d y = true)) :
    Calls Try.prog 58 #[.int .i64 0, .int .i64 10001, .func (.func 59) #[.agg #[.int .i64 room, .int .i64 u, .int .i64 b, .int .i64 d]] #[]] w fun e w' => ∃ m : Int, e = .returned (.int .i64 m) ∧ Found (tooFast room u b d) 0 10001 m ∧ Below w.heap.size w w' := by
  go_enter Try.func58, Try.ntmps58
  go_wp2
  go_loopw [0, 1] (fun l h wr => ∃ lo hi : Int, l = .int .i64 lo ∧ h = .int .i64 hi ∧ 0 ≤ lo ∧ lo ≤ hi ∧ hi ≤ 10001 ∧ Hid ((∀ x, 0 ≤ x → x < lo → tooFast room u b d x = false) ∧ (∀ x, hi ≤ x → x < 10001 → tooFast room u b d x = true)) ∧ Below w.heap.size w wr) (fun l h _ => (intOf h - intOf l).toNat)
  case atStart => exact ⟨0, 10001, rfl, rfl, by omega, by omega, by omega, Found.start, Below.refl _ _⟩
  case round =>
    obtain ⟨lo, hi, rfl, rfl, h1, h2, h3, H, hbel⟩ := hrel
    by_cases hlt : lo < hi
    · by_cases hp : tooFast room u b d (lo + (hi - lo) / 2) = true
      · go_wp2_with (go_at_call 59; refine (isTooFast_any _ _ _ _ _ _ ⟨by omega, by omega, by omega, by omega, by omega, by omega⟩ hd hd' hr hr').mono ?_; rintro e w2 ⟨rfl, hb2⟩)
        go_roundw
        case rel =>
          refine ⟨lo, lo + (hi - lo) / 2, rfl, rfl, by omega, by omega, by omega, ⟨H.out.1, fun x hx hx' => ?_⟩, hbel.trans (hb2.mono hbel.size)⟩
          exact mono.out _ _ (by omega) hx hx' hp
        case measure => simp [intOf]; omega
      · have hp' : tooFast room u b d (lo + (hi - lo) / 2) = false := by simpa using hp
        clear hp
        go_wp2_with (go_at_call 59; refine (isTooFast_any _ _ _ _ _ _ ⟨by omega, by omega, by omega, by omega, by omega, by omega⟩ hd hd' hr hr').mono ?_; rintro e w2 ⟨rfl, hb2⟩)
        go_roundw
        case rel =>
          refine ⟨lo + (hi - lo) / 2 + 1, hi, rfl, rfl, by omega, by omega, by omega, ⟨fun x hx hx' => ?_, H.out.2⟩, hbel.trans (hb2.mono hbel.size)⟩
          cases hc : tooFast room u b d x with
          | false => rfl
          | true => rw [mono.out x (lo + (hi - lo) / 2) hx (by omega) (by omega) hc] at hp'; cases hp'
        case measure => simp [intOf]; omega
    · have he : hi = lo := by omega
      subst he
      go_wp2
      go_ret
      exact ⟨_, ret_int rfl, ⟨h1, h3, H.out⟩, hbel⟩

set_option maxHeartbeats 1000000 in
theorem leastMetBy_any (room v u : Int) (w : World) (hv : 0 ≤ v) (hv' : v ≤ 10000) (hu : 0 ≤ u) (hu' : u ≤ 10000) (hr : 0 ≤ room) (hr' : room ≤ 100000000)
    (mono : Hid (∀ x y, 10 ≤ x → x ≤ y → y < 1001 → metBy room v u x = true → metBy room v u y = true)) :
    Calls Try.prog 58 #[.int .i64 10, .int .i64 1001, .func (.func 64) #[.agg #[.int .i64 room, .int .i64 v, .int .i64 u]] #[]] w fun e w' => ∃ m : Int, e = .returned (.int .i64 m) ∧ Found (metBy room v u) 10 1001 m ∧ Below w.heap.size w w' := by
  go_enter Try.func58, Try.ntmps58
  go_wp2
  go_loopw [0, 1] (fun l h wr => ∃ lo hi : Int, l = .int .i64 lo ∧ h = .int .i64 hi ∧ 10 ≤ lo ∧ lo ≤ hi ∧ hi ≤ 1001 ∧ Hid ((∀ x, 10 ≤ x → x < lo → metBy room v u x = false) ∧ (∀ x, hi ≤ x → x < 1001 → metBy room v u x = true)) ∧ Below w.heap.size w wr) (fun l h _ => (intOf h - intOf l).toNat)
  case atStart => exact ⟨10, 1001, rfl, rfl, by omega, by omega, by omega, Found.start, Below.refl _ _⟩
  case round =>
    obtain ⟨lo, hi, rfl, rfl, h1, h2, h3, H, hbel⟩ := hrel
    by_cases hlt : lo < hi
    · by_cases hp : metBy room v u (lo + (hi - lo) / 2) = true
      · go_wp2_with (go_at_call 64; refine (isMetBy_any _ _ _ _ _ ⟨by omega, by omega, by omega, by omega, by omega, by omega⟩ hr hr').mono ?_; rintro e w2 ⟨rfl, hb2⟩)
        go_roundw
        case rel =>
          refine ⟨lo, lo + (hi - lo) / 2, rfl, rfl, by omega, by omega, by omega, ⟨H.out.1, fun x hx hx' => ?_⟩, hbel.trans (hb2.mono hbel.size)⟩
          exact mono.out _ _ (by omega) hx hx' hp
        case measure => simp [intOf]; omega
      · have hp' : metBy room v u (lo + (hi - lo) / 2) = false := by simpa using hp
        clear hp
        go_wp2_with (go_at_call 64; refine (isMetBy_any _ _ _ _ _ ⟨by omega, by omega, by omega, by omega, by omega, by omega⟩ hr hr').mono ?_; rintro e w2 ⟨rfl, hb2⟩)
        go_roundw
        case rel =>
          refine ⟨lo + (hi - lo) / 2 + 1, hi, rfl, rfl, by omega, by omega, by omega, ⟨fun x hx hx' => ?_, H.out.2⟩, hbel.trans (hb2.mono hbel.size)⟩
          cases hc : metBy room v u x with
          | false => rfl
          | true => rw [mono.out x (lo + (hi - lo) / 2) hx (by omega) (by omega) hc] at hp'; cases hp'
        case measure => simp [intOf]; omega
    · have he : hi = lo := by omega
      subst he
      go_wp2
      go_ret
      exact ⟨_, ret_int rfl, ⟨h1, h3, H.out⟩, hbel⟩

end Go.Proofs.Yteodefmpkljedaa
