/-
  The program's walks of chapter 1's slowing down: the closed sum.
  The program's walks of MostSpeed and LeastBrake: a search by halves with a function value.
-/
import Derived.Test.YteodefmpkljedaaDoorSpecSlow
import Derived.Deep.RegionHeld3
import Derived.Deep.DrawnRows
import Derived.Deep.QuietTactic
import Derived.BigQuiet
import Derived.WalkSmall
namespace Go.Proofs.YteodefmpkljedaaDoor
open Go.RowKit
attribute [local go_sem ↓] Go.wp_at_zero Go.wp_at_succ

theorem wrapIn {x : Int} (h : -1000000000000000 ≤ x) (g : x ≤ 1000000000000000) : IntKind.i64.wrap x = x := IntWalk.i64_in x ⟨by omega, by omega⟩

theorem bcell {W w1 : World} (hb : Below W.heap.size W w1) : (∀ b o, b < W.heap.size → w1.cell? ⟨b, o, none⟩ = W.cell? ⟨b, o, none⟩) ∧ (∀ b o, b < W.heap.size → w1.frozen? ⟨b, o, none⟩ = W.frozen? ⟨b, o, none⟩) :=
  ⟨fun b o h => hb.cell (p := ⟨b, o, none⟩) h, fun b o h => hb.frozen (p := ⟨b, o, none⟩) h⟩

theorem isBrake_yes (x : Int) (w : World) (h : 10 ≤ x) (g : x ≤ 1000) :
    Calls Tryd.prog 47 #[.int .i64 x] w fun e w' => e = .returned (.bool true) ∧ w' = w := by
  go_enter Tryd.func47, Tryd.ntmps47
  go_wp2
  go_ret
  exact ⟨by simp, rfl⟩

theorem isBrake_no (x : Int) (w : World) (h : x < 10 ∨ 1000 < x) :
    Calls Tryd.prog 47 #[.int .i64 x] w fun e w' => e = .returned (.bool false) ∧ w' = w := by
  by_cases g : 10 ≤ x
  · have g' : decide (x ≤ 1000) = false := by simp; omega
    clear h
    go_enter Tryd.func47, Tryd.ntmps47
    go_wp2
    go_ret
    exact ⟨by simp, rfl⟩
  · have g' : decide (10 ≤ x) = false := by simpa using g
    clear h
    go_enter Tryd.func47, Tryd.ntmps47
    go_wp2
    go_ret
    exact ⟨by simp, rfl⟩

theorem isDelay_yes (x : Int) (w : World) (h : 0 ≤ x) (g : x ≤ 20) :
    Calls Tryd.prog 34 #[.int .i64 x] w fun e w' => e = .returned (.bool true) ∧ w' = w := by
  go_enter Tryd.func34, Tryd.ntmps34
  go_wp2
  go_ret
  exact ⟨by simp, rfl⟩

theorem isDelay_no (x : Int) (w : World) (h : x < 0 ∨ 20 < x) :
    Calls Tryd.prog 34 #[.int .i64 x] w fun e w' => e = .returned (.bool false) ∧ w' = w := by
  by_cases g : 0 ≤ x
  · have g' : decide (x ≤ 20) = false := by simp; omega
    clear h
    go_enter Tryd.func34, Tryd.ntmps34
    go_wp2
    go_ret
    exact ⟨by simp, rfl⟩
  · have g' : decide (0 ≤ x) = false := by simpa using g
    clear h
    go_enter Tryd.func34, Tryd.ntmps34
    go_wp2
    go_ret
    exact ⟨by simp, rfl⟩

theorem isLength_yes (x : Int) (w : World) (h : 0 ≤ x) (g : x ≤ 100000000) :
    Calls Tryd.prog 32 #[.int .i64 x] w fun e w' => e = .returned (.bool true) ∧ w' = w := by
  go_enter Tryd.func32, Tryd.ntmps32
  go_wp2
  go_ret
  exact ⟨by simp, rfl⟩

theorem isLength_no (x : Int) (w : World) (h : x < 0 ∨ 100000000 < x) :
    Calls Tryd.prog 32 #[.int .i64 x] w fun e w' => e = .returned (.bool false) ∧ w' = w := by
  by_cases g : 0 ≤ x
  · have g' : decide (x ≤ 100000000) = false := by simp; omega
    clear h
    go_enter Tryd.func32, Tryd.ntmps32
    go_wp2
    go_ret
    exact ⟨by simp, rfl⟩
  · have g' : decide (0 ≤ x) = false := by simpa using g
    clear h
    go_enter Tryd.func32, Tryd.ntmps32
    go_wp2
    go_ret
    exact ⟨by simp, rfl⟩

end Go.Proofs.YteodefmpkljedaaDoor

namespace Go.Proofs.YteodefmpkljedaaDoor
open Go.RowKit
attribute [local go_sem ↓] Go.wp_at_zero Go.wp_at_succ
set_option linter.unusedVariables false

theorem ret_bool {a b : Bool} (h : a = b) : Ending.returned (.bool a) = .returned (.bool b) := by rw [h]

def tooFast (room u b d x : Int) : Bool := decide (room < d * x + Slow.len x u b)

def metBy (room v u x : Int) : Bool := decide (Slow.len v u x ≤ room)

/-- A search by halves: what it finds. -/
def Found (p : Int → Bool) (lo hi m : Int) : Prop := lo ≤ m ∧ m ≤ hi ∧ (∀ x, lo ≤ x → x < m → p x = false) ∧ (∀ x, m ≤ x → x < hi → p x = true)
theorem Found.start {p : Int → Bool} {lo hi : Int} : (∀ x, lo ≤ x → x < lo → p x = false) ∧ (∀ x, hi ≤ x → x < hi → p x = true) := ⟨fun _ h g => by omega, fun _ h g => by omega⟩

end Go.Proofs.YteodefmpkljedaaDoor
