/-
  The program's table of rounds: all of it is 0 at first.
-/
import Derived.Test.YteodefmpkljedaaProg
import Derived.WalkKit
import Derived.KernelRfl
namespace Go.Proofs.Yteodefmpkljedaa
set_option linter.unusedVariables false

def AllZ (l : List Value) : Prop := ∀ v, v ∈ l → v = .int .i16 0
/-- What is still to be looked at of a row that should be all 0. -/
def zero0 : Option (List Value) → Option (List Value)
  | some (.int .i16 (.ofNat 0) :: t) => some t
  | some [] => some []
  | _ => none
/-- Twice as many. -/
def twice (f : Option (List Value) → Option (List Value)) (s : Option (List Value)) : Option (List Value) :=
  match f s with
  | some l => f (some l)
  | none => none
def zero1 : Option (List Value) → Option (List Value) := twice zero0
def zero2 : Option (List Value) → Option (List Value) := twice zero1
def zero3 : Option (List Value) → Option (List Value) := twice zero2
def zero4 : Option (List Value) → Option (List Value) := twice zero3
def zero5 : Option (List Value) → Option (List Value) := twice zero4
def zero6 : Option (List Value) → Option (List Value) := twice zero5
def zero7 : Option (List Value) → Option (List Value) := twice zero6
def zero8 : Option (List Value) → Option (List Value) := twice zero7
def zero9 : Option (List Value) → Option (List Value) := twice zero8
def zero10 : Option (List Value) → Option (List Value) := twice zero9
def zero11 : Option (List Value) → Option (List Value) := twice zero10
def zero12 : Option (List Value) → Option (List Value) := twice zero11
def zero13 : Option (List Value) → Option (List Value) := twice zero12
def zero14 : Option (List Value) → Option (List Value) := twice zero13
def zero15 : Option (List Value) → Option (List Value) := twice zero14
def zero16 : Option (List Value) → Option (List Value) := twice zero15
def zero17 : Option (List Value) → Option (List Value) := twice zero16
def isDone : Option (List Value) → Bool
  | some [] => true
  | _ => false
def Takes (f : Option (List Value) → Option (List Value)) : Prop := ∀ l r, f (some l) = some r → ∃ p, l = p ++ r ∧ AllZ p
theorem takes0 : Takes zero0 := by
  intro l r h
  unfold zero0 at h
  split at h
  · next t e =>
    cases e
    cases h
    exact ⟨[.int .i16 (.ofNat 0)], rfl, fun v hv => by simpa using hv⟩
  · next e =>
    cases e
    cases h
    exact ⟨[], rfl, fun v hv => by simp at hv⟩
  · cases h
theorem takes_twice {f : Option (List Value) → Option (List Value)} (hf : Takes f) : Takes (twice f) := by
  intro l r h
  unfold twice at h
  cases e : f (some l) with
  | none => rw [e] at h; cases h
  | some m =>
    rw [e] at h
    change f (some m) = some r at h
    obtain ⟨p, rfl, hp⟩ := hf _ _ e
    obtain ⟨p', rfl, hp'⟩ := hf _ _ h
    exact ⟨p ++ p', by simp, fun v hv => by rcases List.mem_append.1 hv with c | c; exact hp v c; exact hp' v c⟩
theorem takes17 : Takes zero17 := takes_twice (takes_twice (takes_twice (takes_twice (takes_twice (takes_twice (takes_twice (takes_twice (takes_twice (takes_twice (takes_twice (takes_twice (takes_twice (takes_twice (takes_twice (takes_twice (takes_twice (takes0)))))))))))))))))
theorem zero_done {l : List Value} (h : isDone (zero17 (some l)) = true) : AllZ l := by
  cases e : zero17 (some l) with
  | none => rw [e] at h; simp [isDone] at h
  | some m =>
    rw [e] at h
    cases m with
    | cons a b => simp [isDone] at h
    | nil =>
      obtain ⟨p, rfl, hp⟩ := takes17 _ _ e
      simpa using hp

theorem rounds_done : isDone (zero17 (some (Try.zeroCells134).toList)) = true := by kernel_rfl
theorem rounds_zero {i : Nat} (h : i < 122061) : (Try.zeroCells134)[i]? = some (.int .i16 0) := by
  have hs : i < (Try.zeroCells134).size := by rw [Try.zeroCells134_size]; exact h
  rw [Array.getElem?_eq_getElem hs]
  exact congrArg some (zero_done rounds_done _ (by simp [Array.mem_toList_iff]))

end Go.Proofs.Yteodefmpkljedaa
