/-
  The program's walks of MostSpeed and LeastBrake: a search by halves with a function value.
-/
import Derived.Test.YteodefmpkljedaaDoorImplSlow
namespace Go.Proofs.YteodefmpkljedaaDoor
open Go.RowKit
attribute [local go_sem ↓] Go.wp_at_zero Go.wp_at_succ
set_option linter.unusedVariables false

theorem ret_bool {a b : Bool} (h : a = b) : Ending.returned (.bool a) = .returned (.bool b) := by rw [h]

def tooFast (room u b d x : Int) : Bool := decide (room < d * x + Slow.len x u b)

def metBy (room v u x : Int) : Bool := decide (Slow.len v u x ≤ room)

/-- A search by halves: what it finds. -/
def Found (p : Int → Bool) (lo hi m : Int) : Prop := lo ≤ m ∧ m ≤ hi ∧ (∀ x, lo ≤ x → x < m → p x = false) ∧ (∀ x, m ≤ x → x < hi → p x = true)
theorem Found.start {p : Int → Bool} {lo hi : Int} : (∀ x, lo ≤ x → x < lo → p x = false) ∧ (∀ x, hi ≤ x → x < hi → p x = true) := ⟨fun _ h g => by omega, fun _ h g => by omega⟩

end Go.Proofs.YteodefmpkljedaaDoor
