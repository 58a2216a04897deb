/-
  Chapter 3 as plain mathematics: what is safe, the greatest speed, what a watched train does.
-/
import Derived.Test.YteodefmpkljedaaDoorWay
namespace Go.Proofs.YteodefmpkljedaaDoor
open Go.RowKit
set_option linter.unusedVariables false

/-- A train may move by v from x. -/
def Prof.may (P : Prof) (x v : Int) : Bool := if v = 0 then decide (x ≤ P.fin) else decide (x + v ≤ P.fin ∧ v ≤ P.over x (x + v))
/-- The next speed, when n ticks have been at this one. -/
def Prof.next (P : Prof) (n x v : Int) : Int := if P.delay ≤ n then less v (P.rate x) else v
def Prof.safeIn (P : Prof) : Nat → Int → Int → Int → Bool
  | 0, _, _, _ => false
  | f + 1, n, x, v => if P.may x v = true then (if v = 0 then true else P.safeIn f (n + 1) (x + v) (P.next n x v)) else false
def Prof.fuel (P : Prof) (n v : Int) : Nat := (P.delay - n).toNat + v.toNat + 1
/-- From x on, by v, n ticks being over: all can still be kept to. -/
def Prof.safe (P : Prof) (n x v : Int) : Bool := P.safeIn (P.fuel n v) n x v

theorem Prof.next_bounds {P : Prof} (hr : ∀ x, 1 ≤ P.rate x) {n x v : Int} (hv : 0 ≤ v) : 0 ≤ P.next n x v ∧ P.next n x v ≤ v := by
  unfold Prof.next
  split
  · exact less_bounds hv (by have := hr x; omega)
  · omega
theorem Prof.fuel_next {P : Prof} (hr : ∀ x, 1 ≤ P.rate x) {n x v : Int} (hv : 0 < v) : P.fuel (n + 1) (P.next n x v) < P.fuel n v := by
  unfold Prof.fuel Prof.next
  by_cases c : P.delay ≤ n
  · rw [if_pos c]
    have := less_lt (v := v) (b := P.rate x) (by omega) (hr x)
    have := less_bounds (v := v) (b := P.rate x) (by omega) (by have := hr x; omega)
    omega
  · rw [if_neg c]; omega
theorem Prof.safeIn_more {P : Prof} (hr : ∀ x, 1 ≤ P.rate x) : ∀ (f g : Nat) (n x v : Int), 0 ≤ v → P.fuel n v ≤ f → P.fuel n v ≤ g → P.safeIn f n x v = P.safeIn g n x v
  | 0, _, n, x, v, _, h, _ => by unfold Prof.fuel at h; omega
  | _ + 1, 0, n, x, v, _, _, h => by unfold Prof.fuel at h; omega
  | f + 1, g + 1, n, x, v, hv, h, k => by
    unfold Prof.safeIn
    by_cases c : P.may x v = true
    · rw [if_pos c, if_pos c]
      by_cases d : v = 0
      · rw [if_pos d, if_pos d]
      · rw [if_neg d, if_neg d]
        have hf := P.fuel_next hr (n := n) (x := x) (v := v) (by omega)
        exact P.safeIn_more hr f g _ _ _ (P.next_bounds hr hv).1 (by omega) (by omega)
    · rw [if_neg c, if_neg c]
theorem Prof.safe_no {P : Prof} {n x v : Int} (h : P.may x v = false) : P.safe n x v = false := by
  unfold Prof.safe Prof.fuel Prof.safeIn
  rw [if_neg (by rw [h]; simp)]
theorem Prof.safe_stand {P : Prof} {n x : Int} (h : P.may x 0 = true) : P.safe n x 0 = true := by
  unfold Prof.safe Prof.fuel Prof.safeIn
  rw [if_pos h, if_pos rfl]
theorem Prof.safe_go {P : Prof} (hr : ∀ x, 1 ≤ P.rate x) {n x v : Int} (h : P.may x v = true) (hv : 0 < v) : P.safe n x v = P.safe (n + 1) (x + v) (P.next n x v) := by
  conv => lhs; unfold Prof.safe Prof.fuel Prof.safeIn
  rw [if_pos h, if_neg (by omega)]
  unfold Prof.safe
  have hf := P.fuel_next hr (n := n) (x := x) (v := v) hv
  exact P.safeIn_more hr _ _ _ _ _ (P.next_bounds hr (by omega)).1 (by unfold Prof.fuel at hf; unfold Prof.fuel; omega) (Nat.le_refl _)
/-- What is safe may move, and is safe behind its move. -/
theorem Prof.safe_may {P : Prof} {n x v : Int} (h : P.safe n x v = true) : P.may x v = true := by
  cases c : P.may x v with
  | true => rfl
  | false => rw [Prof.safe_no c] at h; cases h
theorem Prof.safe_next {P : Prof} (hr : ∀ x, 1 ≤ P.rate x) {n x v : Int} (h : P.safe n x v = true) (hv : 0 < v) : P.safe (n + 1) (x + v) (P.next n x v) = true := by
  rw [← P.safe_go hr (P.safe_may h) hv]; exact h
theorem Prof.Ok.rates {P : Prof} (h : P.Ok) : ∀ x, 1 ≤ P.rate x := fun x => by have := h.rate x; omega
/-- A later tick is no slower to brake: what is safe early is safe with the delay over, from the same place and speed. -/
theorem Prof.may_end {P : Prof} {x v : Int} (h : P.may x v = true) : x + v ≤ P.fin := by
  unfold Prof.may at h
  split at h
  · simp at h; omega
  · simp at h; omega

/-- The greatest speed such that it and all below are safe. -/
def MostIs (P : Prof) (x m : Int) : Prop := -1 ≤ m ∧ m ≤ 10000 ∧ (∀ u, 0 ≤ u → u ≤ m → P.safe 0 x u = true) ∧ (m < 10000 → P.safe 0 x (m + 1) = false)
theorem MostIs.unique {P : Prof} {x m n : Int} (h : MostIs P x m) (g : MostIs P x n) : m = n := by
  obtain ⟨h1, h2, h3, h4⟩ := h
  obtain ⟨g1, g2, g3, g4⟩ := g
  rcases Int.lt_trichotomy m n with c | c | c
  · have := g3 (m + 1) (by omega) (by omega); rw [h4 (by omega)] at this; cases this
  · exact c
  · have := h3 (n + 1) (by omega) (by omega); rw [g4 (by omega)] at this; cases this
def Prof.mostUp (P : Prof) (x : Int) : Nat → Int → Int
  | 0, v => v - 1
  | f + 1, v => if P.safe 0 x v = true then P.mostUp x f (v + 1) else v - 1
def Prof.most (P : Prof) (x : Int) : Int := P.mostUp x 10001 0
theorem Prof.mostUp_is (P : Prof) (x : Int) : ∀ (f : Nat) (v : Int), 0 ≤ v → v + f = 10001 → (∀ u, 0 ≤ u → u < v → P.safe 0 x u = true) → MostIs P x (P.mostUp x f v)
  | 0, v, h0, h, g => by
    unfold Prof.mostUp
    exact ⟨by omega, by omega, fun u a b => g u a (by omega), fun c => by omega⟩
  | f + 1, v, h0, h, g => by
    unfold Prof.mostUp
    by_cases c : P.safe 0 x v = true
    · rw [if_pos c]
      refine P.mostUp_is x f (v + 1) (by omega) (by omega) (fun u a b => ?_)
      by_cases d : u = v
      · subst d; exact c
      · exact g u a (by omega)
    · rw [if_neg c]
      refine ⟨by omega, by omega, fun u a b => g u a (by omega), fun _ => ?_⟩
      rw [show v - 1 + 1 = v by omega]
      simpa using c
theorem Prof.most_is (P : Prof) (x : Int) : MostIs P x (P.most x) := P.mostUp_is x 10001 0 (by omega) (by omega) (fun u a b => by omega)
theorem Prof.most_bounds (P : Prof) (x : Int) : -1 ≤ P.most x ∧ P.most x ≤ 10000 := ⟨(P.most_is x).1, (P.most_is x).2.1⟩

/-- The answers of chapter 3. -/
def Prof.safeAns (P : Prof) (x v : Int) : Bool := decide (P.code = 0 ∧ 0 ≤ x ∧ x ≤ P.total ∧ 0 ≤ v ∧ v ≤ 10000) && P.safe 0 x v
def Prof.mostAns (P : Prof) (x : Int) : Int := if P.code = 0 ∧ 0 ≤ x ∧ x ≤ P.total then P.most x else -1

end Go.Proofs.YteodefmpkljedaaDoor
