/-
  MostSpeed and LeastBrake: the program's and the models', each by what it finds.
-/
import Derived.Test.YteodefmpkljedabImplMost
namespace Go.Proofs.Yteodefmpkljedab
open Go.RowKit
set_option linter.unusedVariables false

/-- All up to m fit in; one more does not. -/
def IsMost (room u b d m : Int) : Prop := 0 ≤ m ∧ m ≤ 10000 ∧ (∀ x, 0 ≤ x → x ≤ m → tooFast room u b d x = false) ∧ (m < 10000 → tooFast room u b d (m + 1) = true)
theorem IsMost.unique {room u b d m n : Int} (h : IsMost room u b d m) (g : IsMost room u b d n) : m = n := by
  obtain ⟨h1, h2, h3, h4⟩ := h
  obtain ⟨g1, g2, g3, g4⟩ := g
  rcases Int.lt_trichotomy m n with c | c | c
  · have := g3 (m + 1) (by omega) (by omega); rw [h4 (by omega)] at this; cases this
  · exact c
  · have := h3 (n + 1) (by omega) (by omega); rw [g4 (by omega)] at this; cases this
/-- The least brake that is enough; 0 when there is none. -/
def IsLeast (room v u k : Int) : Prop := (k = 0 ∧ ∀ x, 10 ≤ x → x ≤ 1000 → metBy room v u x = false) ∨ (10 ≤ k ∧ k ≤ 1000 ∧ metBy room v u k = true ∧ ∀ x, 10 ≤ x → x < k → metBy room v u x = false)
theorem IsLeast.unique {room v u m n : Int} (h : IsLeast room v u m) (g : IsLeast room v u n) : m = n := by
  rcases h with ⟨rfl, h⟩ | ⟨h1, h2, h3, h4⟩ <;> rcases g with ⟨rfl, g⟩ | ⟨g1, g2, g3, g4⟩
  · rfl
  · rw [h n g1 g2] at g3; cases g3
  · rw [g m h1 h2] at h3; cases h3
  · rcases Int.lt_trichotomy m n with c | c | c
    · rw [g4 m h1 c] at h3; cases h3
    · exact c
    · rw [h4 n g1 c] at g3; cases g3

def RightMost (room u b d : Int) : Prop := 0 ≤ room ∧ room ≤ 100000000 ∧ 0 ≤ u ∧ u ≤ 10000 ∧ 10 ≤ b ∧ b ≤ 1000 ∧ 0 ≤ d ∧ d ≤ 20
def RightLeast (room v u : Int) : Prop := 0 ≤ room ∧ room ≤ 100000000 ∧ 0 ≤ v ∧ v ≤ 10000 ∧ 0 ≤ u ∧ u ≤ 10000

theorem tooFast_zero {room u b d : Int} (h : RightMost room u b d) : tooFast room u b d 0 = false := by
  unfold tooFast; rw [(Slow.len_rest h.2.2.1).1]; simp; exact h.1
theorem tooFast_mono {room u b d : Int} (h : RightMost room u b d) : ∀ x y, 0 ≤ x → x ≤ y → y < 10001 → tooFast room u b d x = true → tooFast room u b d y = true := by
  obtain ⟨_, _, h1, _, h2, _, h3, _⟩ := h
  intro x y hx hxy _ ht
  unfold tooFast at *
  simp at *
  have m := Slow.mono_v (u := u) (b := b) h1 (by omega) hxy
  have d1 : d * x ≤ d * y := Int.mul_le_mul_of_nonneg_left hxy h3
  omega
theorem metBy_mono {room v u : Int} (h : RightLeast room v u) : ∀ x y, 10 ≤ x → x ≤ y → y < 1001 → metBy room v u x = true → metBy room v u y = true := by
  obtain ⟨_, _, _, _, h1, _⟩ := h
  intro x y hx hxy _ ht
  unfold metBy at *
  simp at *
  have m := Slow.mono_b (u := u) (v := v) h1 (by omega) hxy
  omega
theorem isMost_of_found {room u b d m : Int} (h : RightMost room u b d) (f : Found (tooFast room u b d) 0 10001 m) : 1 ≤ m ∧ IsMost room u b d (m - 1) := by
  obtain ⟨f1, f2, f3, f4⟩ := f
  have : 1 ≤ m := by
    rcases Int.lt_or_le m 1 with c | c
    · have : m = 0 := by omega
      subst this
      have := f4 0 (by omega) (by omega); rw [tooFast_zero h] at this; cases this
    · exact c
  exact ⟨this, by omega, by omega, fun x hx hm => f3 x hx (by omega), fun hm => f4 _ (by omega) (by omega)⟩

end Go.Proofs.Yteodefmpkljedab
