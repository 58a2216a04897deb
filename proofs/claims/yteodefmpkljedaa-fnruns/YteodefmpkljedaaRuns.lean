/-
  Chapter 4 as plain mathematics: what is a run.
-/
import Derived.Test.YteodefmpkljedaaWatch
namespace Go.Proofs.Yteodefmpkljedaa
open Go.RowKit
set_option linter.unusedVariables false

/-- A train stands where it has to, d ahead of x. -/
def Prof.home (P : Prof) (x short d v : Int) : Bool := decide (v = 0 ∧ x + d ≤ P.fin ∧ P.fin - short ≤ x + d)
/-- The greatest speed that can follow. -/
def high (acc v : Int) : Int := if 60 < v + acc then 60 else v + acc
/-- The speed w can follow v, d ahead of x. -/
def Prof.goes (P : Prof) (acc x d v w : Int) : Bool := decide (less v (P.rate (x + d)) ≤ w ∧ w ≤ high acc v) && P.may (x + d) w
/-- How far ahead, and how fast, behind k speeds. -/
def rst (z : Nat → Int) : Nat → Int × Int
  | 0 => (0, 0)
  | k + 1 => ((rst z k).1 + z k, z k)
def Prof.goesTo (P : Prof) (acc x : Int) (z : Nat → Int) : Nat → Bool
  | 0 => true
  | k + 1 => P.goesTo acc x z k && P.goes acc x (rst z k).1 (rst z k).2 (z k)
def Prof.isRun (P : Prof) (acc x short : Int) (z : Nat → Int) (n : Nat) : Bool := P.goesTo acc x z n && P.home x short (rst z n).1 (rst z n).2
def Prof.runGood (P : Prof) (acc x short : Int) : Bool := decide (P.code = 0 ∧ (1 ≤ acc ∧ acc ≤ 20) ∧ (0 ≤ x ∧ x ≤ P.fin) ∧ P.fin - x ≤ 2000 ∧ (0 ≤ short ∧ short ≤ 2000))
/-- What RunOk answers. -/
def Prof.runAns (P : Prof) (acc x short : Int) (n : Nat) (z : Nat → Int) : Bool := P.runGood acc x short && (decide (n ≤ 2000) && P.isRun acc x short z n)
theorem Prof.runGood_iff {P : Prof} {acc x short : Int} : P.runGood acc x short = true ↔ P.Ok ∧ (1 ≤ acc ∧ acc ≤ 20) ∧ (0 ≤ x ∧ x ≤ P.fin) ∧ P.fin - x ≤ 2000 ∧ (0 ≤ short ∧ short ≤ 2000) := by
  unfold Prof.runGood
  rw [decide_eq_true_eq, Prof.code_zero]
theorem high_le {acc v : Int} (h : 0 ≤ acc) (g : 0 ≤ v) (g' : v ≤ 60) : 0 ≤ high acc v ∧ high acc v ≤ 60 := by unfold high; split <;> omega
theorem Prof.goes_in {P : Prof} (hr : ∀ y, 1 ≤ P.rate y) {acc x d v w : Int} (h : 0 ≤ acc) (g : 0 ≤ v) (g' : v ≤ 60) (hg : P.goes acc x d v w = true) : 0 ≤ w ∧ w ≤ 60 ∧ x + d + w ≤ P.fin := by
  unfold Prof.goes at hg
  simp only [Bool.and_eq_true, decide_eq_true_eq] at hg
  have h1 := less_bounds (v := v) (b := P.rate (x + d)) g (by have := hr (x + d); omega)
  have h2 := high_le h g g'
  have h3 := Prof.may_end hg.2
  omega
/-- What holds along a run. -/
theorem Prof.goesTo_in {P : Prof} (hr : ∀ y, 1 ≤ P.rate y) {acc x : Int} (h : 0 ≤ acc) (hx : x ≤ P.fin) (z : Nat → Int) : ∀ k, P.goesTo acc x z k = true → 0 ≤ (rst z k).1 ∧ x + (rst z k).1 ≤ P.fin ∧ 0 ≤ (rst z k).2 ∧ (rst z k).2 ≤ 60
  | 0, _ => by simp [rst]; exact hx
  | k + 1, hk => by
    unfold Prof.goesTo at hk
    simp only [Bool.and_eq_true] at hk
    have ih := Prof.goesTo_in hr h hx z k hk.1
    have := Prof.goes_in hr h ih.2.2.1 ih.2.2.2 hk.2
    unfold rst
    dsimp only
    omega
theorem Prof.goesTo_no {P : Prof} {acc x : Int} {z : Nat → Int} {k : Nat} (h : P.goesTo acc x z k = false) : ∀ m, P.goesTo acc x z (k + m) = false
  | 0 => h
  | m + 1 => by
    have := Prof.goesTo_no h m
    show (P.goesTo acc x z (k + m) && _) = false
    rw [this]; rfl

end Go.Proofs.Yteodefmpkljedaa
