/-
  The models' walks: slowing down tick by tick comes to the closed sum.
-/
import Derived.Test.YteodefmpkljedaaDoorProg
import Derived.Test.YteodefmpkljedaaDoorMath
import Derived.WalkKit
import Derived.KernelRfl
namespace Go.Proofs.YteodefmpkljedaaDoor
open Go.RowKit

theorem ret_int {k : IntKind} {a b : Int} (h : a = b) : Ending.returned (.int k a) = .returned (.int k b) := by rw [h]
theorem ret_two {a b c d : Int} (h : a = c) (g : b = d) : Ending.returned (.tuple #[.int .i64 a, .int .i64 b]) = .returned (.tuple #[.int .i64 c, .int .i64 d]) := by rw [h, g]

/-- Two speeds and a brake. -/
def Right (v u b : Int) : Prop := 0 ≤ v ∧ v ≤ 10000 ∧ 0 ≤ u ∧ u ≤ 10000 ∧ 10 ≤ b ∧ b ≤ 1000
theorem l1in_yes (x a b : Int) (w : World) (h : a ≤ x) (g : x ≤ b) :
    Calls Tryd.prog 38 #[.int .i64 x, .int .i64 a, .int .i64 b] w fun e w' => e = .returned (.bool true) ∧ w' = w := by
  go_enter Tryd.func38, Tryd.ntmps38
  go_wp2
  go_ret
  exact ⟨by simp, rfl⟩

theorem l1in_no (x a b : Int) (w : World) (h : x < a ∨ b < x) :
    Calls Tryd.prog 38 #[.int .i64 x, .int .i64 a, .int .i64 b] w fun e w' => e = .returned (.bool false) ∧ w' = w := by
  by_cases g : a ≤ x
  · have g' : decide (x ≤ b) = false := by simp; omega
    clear h
    go_enter Tryd.func38, Tryd.ntmps38
    go_wp2
    go_ret
    exact ⟨by simp, rfl⟩
  · have g' : decide (a ≤ x) = false := by simpa using g
    clear h
    go_enter Tryd.func38, Tryd.ntmps38
    go_wp2
    go_ret
    exact ⟨by simp, rfl⟩

theorem l1brakes_yes (b : Int) (w : World) (h1 : 10 ≤ b) (h2 : b ≤ 1000) :
    Calls Tryd.prog 39 #[.int .i64 b] w fun e w' => e = .returned (.bool true) ∧ w' = w := by
  go_enter Tryd.func39, Tryd.ntmps39
  go_wp2_with (go_at_call 38; refine (l1in_yes _ _ _ _ (by omega) (by omega)).mono ?_; rintro e w' ⟨rfl, rfl⟩)
  go_ret
  exact ⟨rfl, rfl⟩

theorem l1brakes_no (b : Int) (w : World) (h : b < 10 ∨ 1000 < b) :
    Calls Tryd.prog 39 #[.int .i64 b] w fun e w' => e = .returned (.bool false) ∧ w' = w := by
  go_enter Tryd.func39, Tryd.ntmps39
  go_wp2_with (go_at_call 38; refine (l1in_no _ _ _ _ (by omega)).mono ?_; rintro e w' ⟨rfl, rfl⟩)
  go_ret
  exact ⟨rfl, rfl⟩

end Go.Proofs.YteodefmpkljedaaDoor
