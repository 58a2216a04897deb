/-
  What Watch answers, in one sentence for both of its ways.
-/
import Derived.Test.YteodefmpkljedaaSpecWatch2
namespace Go.Proofs.Yteodefmpkljedaa
open Go.RowKit
/-- How many speeds Watch answers; how many ticks it braked; where it ends. -/
def Prof.watN (P : Prof) (n : Nat) (x u : Int) : Nat := if P.watchable n x u then n else 0
def Prof.watBr (P : Prof) (n : Nat) (x u : Int) (z : Nat → Int) : Int := if P.watchable n x u then (P.wst x u z n).braked else 0
def Prof.watAt (P : Prof) (n : Nat) (x u : Int) (z : Nat → Int) : Int := if P.watchable n x u then (P.wst x u z n).x else 0
theorem Prof.watN_le (P : Prof) (n : Nat) (x u : Int) : P.watN n x u ≤ 500 := by
  unfold Prof.watN Prof.watchable
  split
  · next h => simp at h; exact h.1
  · omega
/-- The two ways of Watch as one. -/
theorem watch_join {F : FuncId} {B : Nat} {P : Prof} {x u : Int} {n : Nat} {z : Nat → Int} {args : Array Value} {w : World}
    (hno : P.watchable n x u = false → Calls Try.prog F args w fun e w' => e = .returned (.agg #[.bool false, .slice none 0 0, .int .i64 0, .int .i64 0]) ∧ Below w.heap.size w w')
    (hyes : P.watchable n x u = true → Calls Try.prog F args w fun e w' => ∃ v', e = .returned (.agg #[.bool true, v', .int .i64 (P.wst x u z n).braked, .int .i64 (P.wst x u z n).x]) ∧ w'.ownsRow B 3 1 v' n (singles (P.wSpeed x u z) n) ∧ Below w.heap.size w w') :
    Calls Try.prog F args w fun e w' => ∃ a c, e = .returned (.agg #[.bool (P.watchable n x u), .slice a (P.watN n x u) c, .int .i64 (P.watBr n x u z), .int .i64 (P.watAt n x u z)]) ∧ w'.ownsRow B 3 1 (.slice a (P.watN n x u) c) (P.watN n x u) (singles (P.wSpeed x u z) (P.watN n x u)) ∧ Below w.heap.size w w' := by
  cases h : P.watchable n x u with
  | false =>
    refine (hno h).mono ?_
    rintro e w' ⟨rfl, hb⟩
    have e0 : P.watN n x u = 0 := by simp [Prof.watN, h]
    have e1 : P.watBr n x u z = 0 := by simp [Prof.watBr, h]
    have e2 : P.watAt n x u z = 0 := by simp [Prof.watAt, h]
    rw [e0, e1, e2]
    exact ⟨none, 0, rfl, World.ownsRow_nil _ _ _ _, hb⟩
  | true =>
    refine (hyes h).mono ?_
    rintro e w' ⟨v', rfl, ho, hb⟩
    obtain ⟨a, c, rfl, _, _, _⟩ := owned_shape ho
    have e0 : P.watN n x u = n := by simp [Prof.watN, h]
    have e1 : P.watBr n x u z = (P.wst x u z n).braked := by simp [Prof.watBr, h]
    have e2 : P.watAt n x u z = (P.wst x u z n).x := by simp [Prof.watAt, h]
    rw [e0, e1, e2]
    exact ⟨a, c, rfl, ho, hb⟩
theorem specWatch_any (P : Prof) (v : Value) (x u : Int) (a : Option Addr) (n c : Nat) (z : Nat → Int) (w : World) (hl : P.Lies w v) (hz : Row1 w a n z) (hn : n ≤ 9223372036854775807) :
    Calls Try.prog 16 #[v, .int .i64 x, .int .i64 u, .slice a n c] w fun e w' => ∃ a c, e = .returned (.agg #[.bool (P.watchable n x u), .slice a (P.watN n x u) c, .int .i64 (P.watBr n x u z), .int .i64 (P.watAt n x u z)]) ∧ w'.ownsRow (w.heap.size + 1) 3 1 (.slice a (P.watN n x u) c) (P.watN n x u) (singles (P.wSpeed x u z) (P.watN n x u)) ∧ Below w.heap.size w w' :=
  watch_join (fun h => specWatch_no P v x u a n c z w hl hz hn h) (fun h => specWatch_yes P v x u a n c z w hl hz h)
end Go.Proofs.Yteodefmpkljedaa
