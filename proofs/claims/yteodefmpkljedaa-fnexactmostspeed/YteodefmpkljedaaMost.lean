/-
  MostSpeed and LeastBrake: the program's and the models', each by what it finds.
-/
import Derived.Test.YteodefmpkljedaaImplMost
namespace Go.Proofs.Yteodefmpkljedaa
open Go.RowKit
set_option linter.unusedVariables false

/-- All up to m fit in; one more does not. -/
def IsMost (room u b d m : Int) : Prop := 0 ≤ m ∧ m ≤ 10000 ∧ (∀ x, 0 ≤ x → x ≤ m → tooFast room u b d x = false) ∧ (m < 10000 → tooFast room u b d (m + 1) = true)
theorem IsMost.unique {room u b d m n : Int} (h : IsMost room u b d m) (g : IsMost room u b d n) : m = n := by
  obtain ⟨h1, h2, h3, h4⟩ := h
  obtain ⟨g1, g2, g3, g4⟩ := g
  rcases Int.lt_trichotomy m n with c | c | c
  · have := g3 (m + 1) (by omega) (by omega); rw [h4 (by omega)] at this; cases this
  · exact c
  · have := h3 (n + 1) (by omega) (by omega); rw [g4 (by omega)] at this; cases this
/-- The least brake that is enough; 0 when there is none. -/
def IsLeast (room v u k : Int) : Prop := (k = 0 ∧ ∀ x, 10 ≤ x → x ≤ 1000 → metBy room v u x = false) ∨ (10 ≤ k ∧ k ≤ 1000 ∧ metBy room v u k = true ∧ ∀ x, 10 ≤ x → x < k → metBy room v u x = false)
theorem IsLeast.unique {room v u m n : Int} (h : IsLeast room v u m) (g : IsLeast room v u n) : m = n := by
  rcases h with ⟨rfl, h⟩ | ⟨h1, h2, h3, h4⟩ <;> rcases g with ⟨rfl, g⟩ | ⟨g1, g2, g3, g4⟩
  · rfl
  · rw [h n g1 g2] at g3; cases g3
  · rw [g m h1 h2] at h3; cases h3
  · rcases Int.lt_trichotomy m n with c | c | c
    · rw [g4 m h1 c] at h3; cases h3
    · exact c
    · rw [h4 n g1 c] at g3; cases g3

def RightMost (room u b d : Int) : Prop := 0 ≤ room ∧ room ≤ 100000000 ∧ 0 ≤ u ∧ u ≤ 10000 ∧ 10 ≤ b ∧ b ≤ 1000 ∧ 0 ≤ d ∧ d ≤ 20
def RightLeast (room v u : Int) : Prop := 0 ≤ room ∧ room ≤ 100000000 ∧ 0 ≤ v ∧ v ≤ 10000 ∧ 0 ≤ u ∧ u ≤ 10000

theorem tooFast_zero {room u b d : Int} (h : RightMost room u b d) : tooFast room u b d 0 = false := by
  unfold tooFast; rw [(Slow.len_rest h.2.2.1).1]; simp; exact h.1
theorem tooFast_mono {room u b d : Int} (h : RightMost room u b d) : ∀ x y, 0 ≤ x → x ≤ y → y < 10001 → tooFast room u b d x = true → tooFast room u b d y = true := by
  obtain ⟨_, _, h1, _, h2, _, h3, _⟩ := h
  intro x y hx hxy _ ht
  unfold tooFast at *
  simp at *
  have m := Slow.mono_v (u := u) (b := b) h1 (by omega) hxy
  have d1 : d * x ≤ d * y := Int.mul_le_mul_of_nonneg_left hxy h3
  omega
theorem metBy_mono {room v u : Int} (h : RightLeast room v u) : ∀ x y, 10 ≤ x → x ≤ y → y < 1001 → metBy room v u x = true → metBy room v u y = true := by
  obtain ⟨_, _, _, _, h1, _⟩ := h
  intro x y hx hxy _ ht
  unfold metBy at *
  simp at *
  have m := Slow.mono_b (u := u) (v := v) h1 (by omega) hxy
  omega
theorem isMost_of_found {room u b d m : Int} (h : RightMost room u b d) (f : Found (tooFast room u b d) 0 10001 m) : 1 ≤ m ∧ IsMost room u b d (m - 1) := by
  obtain ⟨f1, f2, f3, f4⟩ := f
  have : 1 ≤ m := by
    rcases Int.lt_or_le m 1 with c | c
    · have : m = 0 := by omega
      subst this
      have := f4 0 (by omega) (by omega); rw [tooFast_zero h] at this; cases this
    · exact c
  exact ⟨this, by omega, by omega, fun x hx hm => f3 x hx (by omega), fun hm => f4 _ (by omega) (by omega)⟩

set_option maxHeartbeats 1000000 in
theorem implMostSpeed_right (room u b d : Int) (w : World) (h : RightMost room u b d) :
    Calls Try.prog 21 #[.int .i64 room, .int .i64 u, .int .i64 b, .int .i64 d] w fun e w' => ∃ m, e = .returned (.int .i64 m) ∧ IsMost room u b d m ∧ Below w.heap.size w w' := by
  have H : Hid (RightMost room u b d) := h
  have hmf : ∀ (fn : Fn) (first cap : Array Value) (w : World), (Instr.makeFunc fn first cap).run Try.prog w = .ok (.func fn first cap) w := fun _ _ _ _ => rfl
  obtain ⟨hr, hr', hu, hu', hb, hb', hd, hd'⟩ := h
  go_enter Try.func21, Try.ntmps21
  go_wp2_with (first | (go_at_call 54; refine (isLength_yes _ _ (by omega) (by omega)).mono ?_; rintro e w' ⟨rfl, rfl⟩) | (go_at_call 55; refine (isSpeed_yes _ _ (by omega) (by omega)).mono ?_; rintro e w' ⟨rfl, rfl⟩) | (go_at_call 56; refine (isBrake_yes _ _ (by omega) (by omega)).mono ?_; rintro e w' ⟨rfl, rfl⟩) | (go_at_call 57; refine (isDelay_yes _ _ (by omega) (by omega)).mono ?_; rintro e w' ⟨rfl, rfl⟩) | (go_at_call 58; refine (leastTooFast_any _ _ _ _ _ hu hu' hb hb' hd hd' hr hr' (tooFast_mono H.out)).mono ?_; rintro e w1 ⟨m, rfl, hm, hbel⟩; obtain ⟨m1, hm'⟩ := isMost_of_found H.out hm; have HM : Hid (IsMost room u b d (m - 1)) := hm'; have m2 : m ≤ 10001 := hm.2.1; clear hm hm'))
  go_ret
  exact ⟨_, ret_int rfl, HM.out, ((Below.refl _ _).alloc (Nat.le_refl _) _).trans (hbel.mono (by simp))⟩

set_option maxHeartbeats 1000000 in
theorem implMostSpeed_wrong (room u b d : Int) (w : World) (h : ¬ RightMost room u b d) :
    Calls Try.prog 21 #[.int .i64 room, .int .i64 u, .int .i64 b, .int .i64 d] w fun e w' => e = .returned (.int .i64 (-1)) ∧ w' = w := by
  unfold RightMost at h
  by_cases c1 : 0 ≤ room ∧ room ≤ 100000000 <;> by_cases c2 : 0 ≤ u ∧ u ≤ 10000 <;> by_cases c3 : 10 ≤ b ∧ b ≤ 1000 <;> by_cases c4 : 0 ≤ d ∧ d ≤ 20
  all_goals first | (exfalso; omega) | skip
  all_goals
    clear h
    go_enter Try.func21, Try.ntmps21
    go_wp2_with (first | (go_at_call 54; first | (refine (isLength_yes _ _ (by omega) (by omega)).mono ?_; rintro e w' ⟨rfl, rfl⟩) | (refine (isLength_no _ _ (by omega)).mono ?_; rintro e w' ⟨rfl, rfl⟩)) | (go_at_call 55; first | (refine (isSpeed_yes _ _ (by omega) (by omega)).mono ?_; rintro e w' ⟨rfl, rfl⟩) | (refine (isSpeed_no _ _ (by omega)).mono ?_; rintro e w' ⟨rfl, rfl⟩)) | (go_at_call 56; first | (refine (isBrake_yes _ _ (by omega) (by omega)).mono ?_; rintro e w' ⟨rfl, rfl⟩) | (refine (isBrake_no _ _ (by omega)).mono ?_; rintro e w' ⟨rfl, rfl⟩)) | (go_at_call 57; first | (refine (isDelay_yes _ _ (by omega) (by omega)).mono ?_; rintro e w' ⟨rfl, rfl⟩) | (refine (isDelay_no _ _ (by omega)).mono ?_; rintro e w' ⟨rfl, rfl⟩)))
    go_ret
    exact ⟨rfl, rfl⟩

set_option maxHeartbeats 1000000 in
theorem specMostSpeed_right (room u b d : Int) (w : World) (h : RightMost room u b d) :
    Calls Try.prog 23 #[.int .i64 room, .int .i64 u, .int .i64 b, .int .i64 d] w fun e w' => ∃ m, e = .returned (.int .i64 m) ∧ IsMost room u b d m ∧ w' = w := by
  have H : Hid (RightMost room u b d) := h
  obtain ⟨hr, hr', hu, hu', hb, hb', hd, hd'⟩ := h
  go_enter Try.func23, Try.ntmps23
  go_wp2_with (first | (go_at_call 63; refine (l1in_yes _ _ _ _ (by omega) (by omega)).mono ?_; rintro e w' ⟨rfl, rfl⟩) | (go_at_call 60; refine (l1speeds_yes _ _ _ (by omega) (by omega) (by omega) (by omega)).mono ?_; rintro e w' ⟨rfl, rfl⟩) | (go_at_call 61; refine (l1brakes_yes _ _ (by omega) (by omega)).mono ?_; rintro e w' ⟨rfl, rfl⟩))
  go_loop [9, 10] (fun p q => ∃ y best : Int, p = .int .i64 best ∧ q = .int .i64 y ∧ 0 ≤ y ∧ y ≤ 10001 ∧ 0 ≤ best ∧ best ≤ y ∧ Hid ((y = 0 ∨ best = y - 1) ∧ ∀ x, 0 ≤ x → x < y → tooFast room u b d x = false)) (fun _ q => (10001 - intOf q).toNat)
  case atStart => exact ⟨0, 0, rfl, rfl, by omega, by omega, by omega, by omega, Or.inl rfl, fun x h g => by omega⟩
  case round =>
    obtain ⟨y, best, rfl, rfl, hy0, hy1, hb0, hb1, HT⟩ := hrel
    by_cases hlt : y ≤ 10000
    · have hdx0 : 0 ≤ d * y := Int.mul_nonneg hd hy0
      have hdx1 : d * y ≤ 200000 := by have := Int.mul_le_mul hd' hlt hy0 (by omega); omega
      obtain ⟨hl0, hl1⟩ := Slow.len_bounds hy0 hlt hu hu' hb hb'
      by_cases ht : room < d * y + Slow.len y u b
      · have HF : Hid (tooFast room u b d y = true) := by show _ = true; unfold tooFast; simpa using ht
        go_wp2_with (go_at_call 62; refine (l1slow_any _ _ _ _ (by omega) (by omega) (by omega) (by omega) (by omega) (by omega)).mono ?_; rintro e w' ⟨rfl, rfl⟩)
        go_ret
        obtain ⟨g1, g2⟩ := HT.out
        have hy : 1 ≤ y := by
          rcases Int.lt_or_le y 1 with c | c
          · have e0 : y = 0 := by omega
            have := HF.out; rw [e0, tooFast_zero H.out] at this; cases this
          · exact c
        have hbest : best = y - 1 := by omega
        refine ⟨best, ret_int rfl, ⟨by omega, by omega, fun x hx hm => g2 x hx (by omega), fun _ => ?_⟩, rfl⟩
        have e1 : best + 1 = y := by omega
        rw [e1]; exact HF.out
      · have HF : Hid (tooFast room u b d y = false) := by show _ = false; unfold tooFast; simpa using ht
        go_wp2_with (go_at_call 62; refine (l1slow_any _ _ _ _ (by omega) (by omega) (by omega) (by omega) (by omega) (by omega)).mono ?_; rintro e w' ⟨rfl, rfl⟩)
        go_round
        case rel =>
          refine ⟨y + 1, y, rfl, rfl, by omega, by omega, by omega, by omega, Or.inr (by omega), fun x hx hm => ?_⟩
          rcases Int.lt_or_le x y with c | c
          · exact HT.out.2 x hx c
          · have : x = y := by omega
            rw [this]; exact HF.out
        case measure => simp [intOf]; omega
    · go_wp2
      go_ret
      obtain ⟨g1, g2⟩ := HT.out
      exact ⟨best, ret_int rfl, ⟨by omega, by omega, fun x hx hm => g2 x hx (by omega), fun _ => by omega⟩, rfl⟩

set_option maxHeartbeats 1000000 in
theorem specMostSpeed_wrong (room u b d : Int) (w : World) (h : ¬ RightMost room u b d) :
    Calls Try.prog 23 #[.int .i64 room, .int .i64 u, .int .i64 b, .int .i64 d] w fun e w' => e = .returned (.int .i64 (-1)) ∧ w' = w := by
  unfold RightMost at h
  by_cases c1 : 0 ≤ room ∧ room ≤ 100000000 <;> by_cases c2 : 0 ≤ u ∧ u ≤ 10000 <;> by_cases c3 : 10 ≤ b ∧ b ≤ 1000 <;> by_cases c4 : 0 ≤ d ∧ d ≤ 20
  all_goals first | (exfalso; omega) | skip
  all_goals
    clear h
    go_enter Try.func23, Try.ntmps23
    go_wp2_with (first | (go_at_call 63; first | (refine (l1in_yes _ _ _ _ (by omega) (by omega)).mono ?_; rintro e w' ⟨rfl, rfl⟩) | (refine (l1in_no _ _ _ _ (by omega)).mono ?_; rintro e w' ⟨rfl, rfl⟩)) | (go_at_call 60; first | (refine (l1speeds_yes _ _ _ (by omega) (by omega) (by omega) (by omega)).mono ?_; rintro e w' ⟨rfl, rfl⟩) | (refine (l1speeds_no _ _ _ (by omega)).mono ?_; rintro e w' ⟨rfl, rfl⟩)) | (go_at_call 61; first | (refine (l1brakes_yes _ _ (by omega) (by omega)).mono ?_; rintro e w' ⟨rfl, rfl⟩) | (refine (l1brakes_no _ _ (by omega)).mono ?_; rintro e w' ⟨rfl, rfl⟩)))
    go_ret
    exact ⟨rfl, rfl⟩

end Go.Proofs.Yteodefmpkljedaa
