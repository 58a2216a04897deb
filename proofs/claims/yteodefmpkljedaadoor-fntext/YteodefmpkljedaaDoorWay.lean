/-
  The program's chapter 2 as plain mathematics: the piece by a search over the ends, the limit by the zones at a place, the way to a stand.
-/
import Derived.Test.YteodefmpkljedaaDoorProf
import Derived.Test.YteodefmpkljedaaDoorImplMost
namespace Go.Proofs.YteodefmpkljedaaDoor
open Go.RowKit
set_option linter.unusedVariables false

def Prof.above (P : Prof) (x i : Int) : Bool := decide (x < sumTo P.L (i.toNat + 1))
theorem Prof.above_mono {P : Prof} (h : P.Up) (x : Int) : ∀ i j, 0 ≤ i → i ≤ j → j < (P.np : Int) → P.above x i = true → P.above x j = true := by
  intro i j hi hij hj ha
  unfold Prof.above at *
  simp at *
  have := sumTo_up h.2 (i.toNat + 1) (j.toNat + 1) (by omega) (by omega)
  omega
/-- The index that the program takes. -/
def Prof.pick (P : Prof) (m : Int) : Nat := if m < (P.np : Int) - 1 then m.toNat else P.np - 1
theorem Prof.rate_of_found {P : Prof} {x m : Int} (h1 : 1 ≤ P.np) (f : Found (P.above x) 0 P.np m) : P.rate x = P.B (P.pick m) := by
  obtain ⟨f1, f2, f3, f4⟩ := f
  have low : ∀ j : Nat, (j : Int) < m → sumTo P.L (j + 1) ≤ x := by
    intro j hj
    have := f3 j (by omega) hj
    unfold Prof.above at this
    simp at this
    omega
  unfold Prof.rate Prof.pick
  by_cases c : m < P.np
  · have hx := f4 m (by omega) c
    unfold Prof.above at hx
    simp at hx
    have := rateUp_of (L := P.L) (B := P.B) (x := x) P.np 0 m.toNat (by omega) (by omega) (fun j _ hj => low j (by omega)) hx
    rw [this]
    split
    · rfl
    · congr 1; omega
  · have := rateUp_last (L := P.L) (B := P.B) (x := x) P.np 0 (fun j _ hj => low j (by omega))
    rw [this, if_neg (by omega)]
    congr 1; omega

/-- A brake of a right profile is one. -/
theorem rateUp_in {L B : Nat → Int} {x a b : Int} (n : Nat) (h : ∀ j, j < n → a ≤ B j ∧ B j ≤ b) : ∀ (m k : Nat), k + m = n → 1 ≤ n → (m = 0 → 1 ≤ k) → a ≤ rateUp L B x m k ∧ rateUp L B x m k ≤ b
  | 0, k, e, h1, h2 => by unfold rateUp; exact h (k - 1) (by omega)
  | m + 1, k, e, h1, h2 => by
    unfold rateUp
    split
    · exact h k (by omega)
    · exact rateUp_in n h m (k + 1) (by omega) h1 (fun _ => by omega)
theorem Prof.Ok.rate {P : Prof} (h : P.Ok) (x : Int) : 10 ≤ P.rate x ∧ P.rate x ≤ 1000 :=
  rateUp_in P.np (fun j hj => (h.pieces j hj).2) P.np 0 (by omega) h.counts.1 (fun e => by have := h.counts.1; omega)

/-- The zones in which a train is whose front is at x, of the first k. -/
def Prof.zonesTo (P : Prof) (x : Int) : Nat → List (Int × Int × Int)
  | 0 => []
  | k + 1 => if P.F k ≤ x ∧ x ≤ P.T k + P.train then P.zonesTo x k ++ [(P.F k, P.T k, P.S k)] else P.zonesTo x k
def leastOf (zs : List (Int × Int × Int)) : Int := zs.foldl (fun m z => if z.2.2 < m then z.2.2 else m) 10000
theorem leastOf_snoc (zs : List (Int × Int × Int)) (z : Int × Int × Int) : leastOf (zs ++ [z]) = if z.2.2 < leastOf zs then z.2.2 else leastOf zs := by unfold leastOf; rw [List.foldl_append]; rfl
theorem Prof.leastOf_zones (P : Prof) (x : Int) : ∀ k, leastOf (P.zonesTo x k) = P.overTo x x k
  | 0 => rfl
  | k + 1 => by
    have ih := P.leastOf_zones x k
    unfold Prof.zonesTo Prof.overTo
    by_cases c : P.F k ≤ x ∧ x ≤ P.T k + P.train
    · rw [if_pos c, leastOf_snoc, ih]
      by_cases d : P.S k < P.overTo x x k
      · rw [if_pos d, if_pos ⟨c.1, c.2, d⟩]
      · rw [if_neg d, if_neg (fun e => d e.2.2)]
    · rw [if_neg c, ih, if_neg (fun e => c ⟨e.1, e.2.1⟩)]
theorem Prof.zonesTo_length (P : Prof) (x : Int) : ∀ k, (P.zonesTo x k).length ≤ k
  | 0 => Nat.le_refl _
  | k + 1 => by
    have ih := P.zonesTo_length x k
    unfold Prof.zonesTo
    split
    · simp; omega
    · omega

/-- Where a train stands: the last place, or none. -/
def Prof.standIn (P : Prof) : Nat → Int → Int → Int
  | 0, x, _ => x
  | n + 1, x, v => if v ≤ 0 then x else if P.total < x + less v (P.rate x) then -1 else P.standIn n (x + less v (P.rate x)) (less v (P.rate x))
def Prof.stand (P : Prof) (x v : Int) : Int := P.standIn v.toNat x v
theorem Prof.standIn_more (P : Prof) (hr : ∀ x, 1 ≤ P.rate x) : ∀ (n m : Nat) (x v : Int), v ≤ n → v ≤ m → P.standIn n x v = P.standIn m x v
  | 0, 0, x, v, _, _ => rfl
  | 0, m + 1, x, v, h, _ => by unfold Prof.standIn; rw [if_pos (by omega)]
  | n + 1, 0, x, v, _, h => by unfold Prof.standIn; rw [if_pos (by omega)]
  | n + 1, m + 1, x, v, h, g => by
    unfold Prof.standIn
    by_cases c : v ≤ 0
    · rw [if_pos c, if_pos c]
    · rw [if_neg c, if_neg c]
      have := less_lt (v := v) (b := P.rate x) (by omega) (hr x)
      rw [P.standIn_more hr n m _ _ (by omega) (by omega)]
theorem Prof.stand_zero (P : Prof) {x v : Int} (h : v ≤ 0) : P.stand x v = x := by
  unfold Prof.stand
  have : v.toNat = 0 := by omega
  rw [this]; rfl
theorem Prof.stand_step (P : Prof) (hr : ∀ x, 1 ≤ P.rate x) {x v : Int} (h : 0 < v) : P.stand x v = if P.total < x + less v (P.rate x) then -1 else P.stand (x + less v (P.rate x)) (less v (P.rate x)) := by
  unfold Prof.stand
  obtain ⟨n, hn⟩ : ∃ n, v.toNat = n + 1 := ⟨v.toNat - 1, by omega⟩
  have := less_lt (v := v) (b := P.rate x) (by omega) (hr x)
  rw [hn]
  conv => lhs; unfold Prof.standIn
  rw [if_neg (by omega), P.standIn_more hr n (less v (P.rate x)).toNat _ _ (by omega) (by omega)]

end Go.Proofs.YteodefmpkljedaaDoor
