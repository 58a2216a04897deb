/-
  The model of Curve.
-/
import Derived.Test.YteodefmpkljedaaSpecSafe2
import Derived.Test.YteodefmpkljedaaWatch
import Derived.Test.YteodefmpkljedaaLawHelp
import Derived.Test.YteodefmpkljedaaOwnRow
namespace Go.Proofs.Yteodefmpkljedaa
open Go.RowKit Go.Sort
set_option linter.unusedVariables false

theorem Try.infoPoint : (Try.prog.info? 57).map (fun i => (i.zero, i.size, i.bytes)) = some (some (.agg #[.int .i64 0, .int .i64 0]), 2, 16) := by kernel_rfl

def Prof.curveOk (P : Prof) (step : Int) : Prop := P.Ok ∧ 1 ≤ step ∧ P.fin / step ≤ 200
/-- How many points the curve has. -/
def Prof.curveN (P : Prof) (step : Int) : Nat := if P.code = 0 ∧ 1 ≤ step ∧ P.fin / step ≤ 200 then (P.fin / step).toNat + 1 else 0
def Prof.curveAt (step : Int) (i : Nat) : Int := i * step
def Prof.curveSpeed (P : Prof) (step : Int) (i : Nat) : Int := P.most (i * step)
theorem Prof.curveN_no {P : Prof} {step : Int} (h : ¬ (P.Ok ∧ 1 ≤ step ∧ P.fin / step ≤ 200)) : P.curveN step = 0 := if_neg (fun c => h ⟨Prof.code_zero.1 c.1, c.2⟩)
theorem Prof.curveN_yes {P : Prof} {step : Int} (h : P.Ok) (g : 1 ≤ step) (k : P.fin / step ≤ 200) : P.curveN step = (P.fin / step).toNat + 1 := if_pos ⟨Prof.code_ok h, g, k⟩
theorem curve_count {fin step : Int} {k : Nat} (h : 1 ≤ step) (hf : 0 ≤ fin) (h1 : (k : Int) * step > fin) (h2 : 1 ≤ k) (h3 : ((k : Int) - 1) * step ≤ fin) : k = (fin / step).toNat + 1 := by
  have a : (k : Int) - 1 ≤ fin / step := (Int.le_ediv_iff_mul_le (by omega)).2 h3
  have b : fin / step < (k : Int) := (Int.ediv_lt_iff_lt_mul (by omega)).2 h1
  omega

end Go.Proofs.Yteodefmpkljedaa
