/-
  The models of BrakeAt, LimitAt and StandAt.
-/
import Derived.Test.YtbgllceojcamkaaSpecOk
import Derived.Test.YtbgllceojcamkaaImplOk2
namespace Go.Proofs.Ytbgllceojcamkaa
open Go.RowKit Go.Sort
set_option linter.unusedVariables false

/-- The answers of chapter 2. -/
def Prof.brakeAns (P : Prof) (x : Int) : Int := if P.code = 0 ∧ 0 ≤ x ∧ x ≤ P.total then P.rate x else -1
def Prof.limitAns (P : Prof) (x : Int) : Int := if P.code = 0 ∧ 0 ≤ x ∧ x ≤ P.total then P.over x x else -1
def Prof.standAns (P : Prof) (x v : Int) : Int := if (P.code = 0 ∧ 0 ≤ x ∧ x ≤ P.total) ∧ 0 ≤ v ∧ v ≤ 10000 then P.stand x v else -1
theorem Prof.with_iff {P : Prof} {x : Int} : (P.code = 0 ∧ 0 ≤ x ∧ x ≤ P.total) ↔ P.With x := by unfold Prof.With; rw [Prof.code_zero]
theorem brakeAns_yes {P : Prof} {x : Int} (h : P.With x) : P.brakeAns x = P.rate x := if_pos (Prof.with_iff.2 h)
theorem brakeAns_no {P : Prof} {x : Int} (h : ¬ P.With x) : P.brakeAns x = -1 := if_neg (fun c => h (Prof.with_iff.1 c))
theorem limitAns_yes {P : Prof} {x : Int} (h : P.With x) : P.limitAns x = P.over x x := if_pos (Prof.with_iff.2 h)
theorem limitAns_no {P : Prof} {x : Int} (h : ¬ P.With x) : P.limitAns x = -1 := if_neg (fun c => h (Prof.with_iff.1 c))
theorem standAns_yes {P : Prof} {x v : Int} (h : P.With x) (g : 0 ≤ v) (k : v ≤ 10000) : P.standAns x v = P.stand x v := if_pos ⟨Prof.with_iff.2 h, g, k⟩
theorem standAns_no {P : Prof} {x v : Int} (h : ¬ P.With x) : P.standAns x v = -1 := if_neg (fun c => h (Prof.with_iff.1 c.1))
theorem standAns_no' {P : Prof} {x v : Int} (h : v < 0 ∨ 10000 < v) : P.standAns x v = -1 := if_neg (fun c => by omega)
theorem Prof.not_with {P : Prof} {x : Int} (h : ¬ P.With x) (hok : P.Ok) : x < 0 ∨ P.total < x := by
  unfold Prof.With at h
  rcases Int.lt_or_le x 0 with c | c
  · exact Or.inl c
  · rcases Int.lt_or_le P.total x with d | d
    · exact Or.inr d
    · exact absurd ⟨hok, c, d⟩ h

end Go.Proofs.Ytbgllceojcamkaa
