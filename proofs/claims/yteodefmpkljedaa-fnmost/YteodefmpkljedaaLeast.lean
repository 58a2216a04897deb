/-
  LeastBrake: the program's and the model's, each by what it finds.
-/
import Derived.Test.YteodefmpkljedaaMost
namespace Go.Proofs.Yteodefmpkljedaa
open Go.RowKit
set_option linter.unusedVariables false

set_option maxHeartbeats 1000000 in
theorem implLeastBrake_right (room v u : Int) (w : World) (h : RightLeast room v u) :
    Calls Try.prog 24 #[.int .i64 room, .int .i64 v, .int .i64 u] w fun e w' => ∃ m, e = .returned (.int .i64 m) ∧ IsLeast room v u m ∧ Below w.heap.size w w' := by
  have H : Hid (RightLeast room v u) := h
  have hmf : ∀ (fn : Fn) (first cap : Array Value) (w : World), (Instr.makeFunc fn first cap).run Try.prog w = .ok (.func fn first cap) w := fun _ _ _ _ => rfl
  obtain ⟨hr, hr', hv, hv', hu, hu'⟩ := h
  go_enter Try.func24, Try.ntmps24
  go_wp2_with (first | (go_at_call 54; refine (isLength_yes _ _ (by omega) (by omega)).mono ?_; rintro e w' ⟨rfl, rfl⟩) | (go_at_call 55; refine (isSpeed_yes _ _ (by omega) (by omega)).mono ?_; rintro e w' ⟨rfl, rfl⟩) | (go_at_call 58; refine (leastMetBy_any _ _ _ _ hv hv' hu hu' hr hr' (metBy_mono H.out)).mono ?_; rintro e w1 ⟨m, rfl, hm, hbel⟩; have HM : Hid (Found (metBy room v u) 10 1001 m) := hm; have m1 : 10 ≤ m := hm.1; have m2 : m ≤ 1001 := hm.2.1; clear hm))
  by_cases hc : m ≤ 1000
  · go_wp2_with (go_at_call 56; refine (isBrake_yes _ _ (by omega) (by omega)).mono ?_; rintro e w' ⟨rfl, rfl⟩)
    go_ret
    obtain ⟨_, _, f3, f4⟩ := HM.out
    exact ⟨m, ret_int rfl, Or.inr ⟨m1, hc, f4 m (by omega) (by omega), f3⟩, ((Below.refl _ _).alloc (Nat.le_refl _) _).trans (hbel.mono (by simp))⟩
  · go_wp2_with (go_at_call 56; refine (isBrake_no _ _ (by omega)).mono ?_; rintro e w' ⟨rfl, rfl⟩)
    go_ret
    obtain ⟨_, _, f3, f4⟩ := HM.out
    exact ⟨0, ret_int rfl, Or.inl ⟨rfl, fun x hx hx' => f3 x hx (by omega)⟩, ((Below.refl _ _).alloc (Nat.le_refl _) _).trans (hbel.mono (by simp))⟩

set_option maxHeartbeats 1000000 in
theorem implLeastBrake_wrong (room v u : Int) (w : World) (h : ¬ RightLeast room v u) :
    Calls Try.prog 24 #[.int .i64 room, .int .i64 v, .int .i64 u] w fun e w' => e = .returned (.int .i64 (-1)) ∧ w' = w := by
  unfold RightLeast at h
  by_cases c1 : 0 ≤ room ∧ room ≤ 100000000 <;> by_cases c2 : 0 ≤ v ∧ v ≤ 10000 <;> by_cases c3 : 0 ≤ u ∧ u ≤ 10000
  all_goals first | (exfalso; omega) | skip
  all_goals
    clear h
    go_enter Try.func24, Try.ntmps24
    go_wp2_with (first | (go_at_call 54; first | (refine (isLength_yes _ _ (by omega) (by omega)).mono ?_; rintro e w' ⟨rfl, rfl⟩) | (refine (isLength_no _ _ (by omega)).mono ?_; rintro e w' ⟨rfl, rfl⟩)) | (go_at_call 55; first | (refine (isSpeed_yes _ _ (by omega) (by omega)).mono ?_; rintro e w' ⟨rfl, rfl⟩) | (refine (isSpeed_no _ _ (by omega)).mono ?_; rintro e w' ⟨rfl, rfl⟩)))
    go_ret
    exact ⟨rfl, rfl⟩

end Go.Proofs.Yteodefmpkljedaa
