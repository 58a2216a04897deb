/-
  The program's table of rounds: all of it is 0 at first.
-/
import Derived.Test.YteiaimjighbkoaaProg
import Derived.WalkKit
import Derived.KernelRfl
namespace Go.Proofs.Yteiaimjighbkoaa
set_option linter.unusedVariables false

/-- What is still to be looked at of a row that should be all 0. -/
inductive ZS
  | go (l : List Value)
  | bad
def ZS.one : ZS → ZS
  | .go (.int .i16 (.ofNat 0) :: t) => .go t
  | .go [] => .go []
  | _ => .bad
/-- Twice as many as the number below. -/
def ZS.on (f : ZS → ZS) : ZS → ZS
  | .go l => f (.go l)
  | .bad => .bad
noncomputable def ZS.many (k : Nat) : ZS → ZS := Nat.rec (motive := fun _ => ZS → ZS) ZS.one (fun _ f s => ZS.on f (f s)) k
def ZS.isDone : ZS → Bool
  | .go [] => true
  | _ => false
def AllZ (l : List Value) : Prop := ∀ v, v ∈ l → v = .int .i16 0
theorem ZS.one_bad : ZS.one .bad = .bad := rfl
theorem ZS.many_bad : ∀ k, ZS.many k .bad = .bad
  | 0 => rfl
  | k + 1 => by
    show ZS.on (ZS.many k) (ZS.many k .bad) = .bad
    rw [ZS.many_bad k]
    rfl
theorem ZS.one_is {l r : List Value} (h : ZS.one (.go l) = .go r) : ∃ p, l = p ++ r ∧ AllZ p := by
  unfold ZS.one at h
  split at h
  · next t e =>
    cases e
    cases h
    exact ⟨[.int .i16 (.ofNat 0)], rfl, fun v hv => by simpa using hv⟩
  · next e =>
    cases e
    cases h
    exact ⟨[], rfl, fun v hv => by simp at hv⟩
  · cases h
theorem ZS.many_is : ∀ (k : Nat) {l r : List Value}, ZS.many k (.go l) = .go r → ∃ p, l = p ++ r ∧ AllZ p
  | 0, l, r, h => ZS.one_is h
  | k + 1, l, r, h => by
    change ZS.on (ZS.many k) (ZS.many k (.go l)) = .go r at h
    cases e : ZS.many k (.go l) with
    | bad => rw [e] at h; cases h
    | go m =>
      rw [e] at h
      change ZS.many k (.go m) = .go r at h
      obtain ⟨p, rfl, hp⟩ := ZS.many_is k e
      obtain ⟨p', rfl, hp'⟩ := ZS.many_is k h
      exact ⟨p ++ p', by simp, fun v hv => by rcases List.mem_append.1 hv with c | c; exact hp v c; exact hp' v c⟩
theorem ZS.done {k : Nat} {l : List Value} (h : (ZS.many k (.go l)).isDone = true) : AllZ l := by
  cases e : ZS.many k (.go l) with
  | bad => rw [e] at h; simp [ZS.isDone] at h
  | go m =>
    rw [e] at h
    cases m with
    | cons a b => simp [ZS.isDone] at h
    | nil =>
      obtain ⟨p, rfl, hp⟩ := ZS.many_is k e
      simpa using hp

theorem rounds_done : (ZS.many 17 (.go (Try.zeroCells134).toList)).isDone = true := by kernel_rfl
theorem rounds_zero {i : Nat} (h : i < 122061) : (Try.zeroCells134)[i]? = some (.int .i16 0) := by
  have hs : i < (Try.zeroCells134).size := by rw [Try.zeroCells134_size]; exact h
  rw [Array.getElem?_eq_getElem hs]
  exact congrArg some (ZS.done rounds_done _ (by simp [Array.mem_toList_iff]))

end Go.Proofs.Yteiaimjighbkoaa
