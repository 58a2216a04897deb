/-
  Chapter 3 as plain mathematics, on: a watched train, what is tighter, the curve's end.
-/
import Derived.Test.YteodefmpkljedaaDoorSafe
namespace Go.Proofs.YteodefmpkljedaaDoor
open Go.RowKit
set_option linter.unusedVariables false

/-- A watched train: where it is, its last speed, where its last move began, ticks since a want was let through, ticks braked. -/
structure WSt where
  x : Int
  v : Int
  was : Int
  n : Int
  braked : Int
def Prof.wstep (P : Prof) (k : Nat) (s : WSt) (w : Int) : WSt :=
  if 0 ≤ w ∧ w ≤ 10000 ∧ P.safe 0 s.x w = true then ⟨s.x + w, w, s.x, 0, s.braked⟩
  else if k = 0 then ⟨s.x + s.v, s.v, s.x, s.n, s.braked + 1⟩
  else ⟨s.x + P.next s.n s.was s.v, P.next s.n s.was s.v, s.x, s.n + 1, s.braked + 1⟩
def Prof.wst (P : Prof) (x v : Int) (z : Nat → Int) : Nat → WSt
  | 0 => ⟨x, v, x, 0, 0⟩
  | k + 1 => P.wstep k (P.wst x v z k) (z k)
/-- What always holds of it. -/
def Prof.WInv (P : Prof) (x : Int) (k : Nat) (s : WSt) : Prop :=
  0 ≤ s.v ∧ s.v ≤ 10000 ∧ 0 ≤ s.was ∧ (k = 0 → s.x = s.was ∧ s.x = x) ∧ (1 ≤ k → s.x = s.was + s.v) ∧ 0 ≤ s.x ∧ s.x ≤ P.fin ∧ 0 ≤ s.n ∧ s.n ≤ k ∧ 0 ≤ s.braked ∧ s.braked ≤ k ∧ P.safe s.n s.was s.v = true
theorem Prof.wstep_inv {P : Prof} (hr : ∀ x, 1 ≤ P.rate x) {x : Int} {k : Nat} {s : WSt} (h : P.WInv x k s) (w : Int) : P.WInv x (k + 1) (P.wstep k s w) ∧ (P.wstep k s w).was = s.x := by
  obtain ⟨h1, h2, h3, h4, h5, h6, h7, h8, h9, h10, h11, h12⟩ := h
  unfold Prof.wstep
  by_cases c : 0 ≤ w ∧ w ≤ 10000 ∧ P.safe 0 s.x w = true
  · rw [if_pos c]
    have he := Prof.may_end (Prof.safe_may c.2.2)
    refine ⟨⟨c.1, c.2.1, h6, fun e => by omega, fun _ => rfl, ?_, ?_, ?_, ?_, h10, ?_, c.2.2⟩, rfl⟩
    all_goals (dsimp only; omega)
  · rw [if_neg c]
    by_cases d : k = 0
    · rw [if_pos d]
      obtain ⟨e1, e2⟩ := h4 d
      have hs : P.safe s.n s.x s.v = true := by rw [e1]; exact h12
      have he := Prof.may_end (Prof.safe_may hs)
      refine ⟨⟨h1, h2, h6, fun e => by omega, fun _ => rfl, ?_, ?_, h8, ?_, ?_, ?_, hs⟩, rfl⟩
      all_goals (dsimp only; omega)
    · rw [if_neg d]
      have e5 := h5 (by omega)
      have hn := P.next_bounds hr (n := s.n) (x := s.was) (v := s.v) h1
      have hs : P.safe (s.n + 1) s.x (P.next s.n s.was s.v) = true := by
        by_cases z : 0 < s.v
        · rw [e5]; exact P.safe_next hr h12 z
        · have z0 : s.v = 0 := by omega
          have hx : P.next s.n s.was s.v = 0 := by omega
          rw [hx]
          refine Prof.safe_stand ?_
          have := Prof.safe_may h12
          rw [z0] at this
          rw [e5, z0, Int.add_zero]
          exact this
      have he := Prof.may_end (Prof.safe_may hs)
      refine ⟨⟨hn.1, ?_, h6, fun e => by omega, fun _ => rfl, ?_, ?_, ?_, ?_, ?_, ?_, hs⟩, rfl⟩
      all_goals (dsimp only; omega)
theorem Prof.wst_inv {P : Prof} (hr : ∀ x, 1 ≤ P.rate x) {x v : Int} (z : Nat → Int) (hx : 0 ≤ x) (hv : 0 ≤ v) (hv' : v ≤ 10000) (hs : P.safe 0 x v = true) : ∀ k, P.WInv x k (P.wst x v z k)
  | 0 => by
    have he := Prof.may_end (Prof.safe_may hs)
    exact ⟨hv, hv', hx, fun _ => ⟨rfl, rfl⟩, fun h => by omega, hx, by show x ≤ P.fin; omega, Int.le_refl _, Int.le_refl _, Int.le_refl _, Int.le_refl _, hs⟩
  | k + 1 => (P.wstep_inv hr (P.wst_inv hr z hx hv hv' hs k) (z k)).1
theorem Prof.wst_was {P : Prof} (hr : ∀ x, 1 ≤ P.rate x) {x v : Int} (z : Nat → Int) (hx : 0 ≤ x) (hv : 0 ≤ v) (hv' : v ≤ 10000) (hs : P.safe 0 x v = true) (k : Nat) : (P.wst x v z (k + 1)).was = (P.wst x v z k).x :=
  (P.wstep_inv hr (P.wst_inv hr z hx hv hv' hs k) (z k)).2
/-- The top promise: no move ends beyond the end, none is faster than its limit. -/
theorem Prof.watched {P : Prof} (hr : ∀ x, 1 ≤ P.rate x) {x v : Int} (z : Nat → Int) (hx : 0 ≤ x) (hv : 0 ≤ v) (hv' : v ≤ 10000) (hs : P.safe 0 x v = true) (k : Nat) :
    0 ≤ (P.wst x v z (k + 1)).v ∧ (P.wst x v z (k + 1)).x = (P.wst x v z k).x + (P.wst x v z (k + 1)).v ∧ P.may (P.wst x v z k).x (P.wst x v z (k + 1)).v = true := by
  have h := P.wst_inv hr z hx hv hv' hs (k + 1)
  have e := P.wst_was hr z hx hv hv' hs k
  obtain ⟨h1, h2, h3, h4, h5, h6, h7, h8, h9, h10, h11, h12⟩ := h
  have h5' := h5 (by omega)
  rw [e] at h5' h12
  exact ⟨h1, h5', Prof.safe_may h12⟩

/-- Of two profiles with the same pieces and the same delay: what may be done in the one may be done in the other. -/
theorem Prof.safe_looser {P Q : Prof} (hr : ∀ x, 1 ≤ P.rate x) (he : ∀ x, Q.rate x = P.rate x) (hd : Q.delay = P.delay) (hm : ∀ x v, 0 ≤ v → Q.may x v = true → P.may x v = true) {n x v : Int} (hv : 0 ≤ v) (h : Q.safe n x v = true) : P.safe n x v = true := by
  have hrQ : ∀ x, 1 ≤ Q.rate x := fun x => by rw [he]; exact hr x
  obtain ⟨f, hf⟩ : ∃ f, P.fuel n v ≤ f := ⟨_, Nat.le_refl _⟩
  induction f generalizing n x v with
  | zero => unfold Prof.fuel at hf; omega
  | succ f ih =>
    have hmay := hm x v hv (Prof.safe_may h)
    by_cases c : v = 0
    · subst c; exact Prof.safe_stand hmay
    · rw [P.safe_go hr hmay (by omega)]
      have hx : Q.next n x v = P.next n x v := by unfold Prof.next; rw [hd, he]
      have h' := Q.safe_next hrQ h (by omega)
      rw [hx] at h'
      have hfn := P.fuel_next hr (n := n) (x := x) (v := v) (by omega)
      exact ih (P.next_bounds hr hv).1 h' (by omega)
theorem Prof.most_looser {P Q : Prof} {x : Int} (h : ∀ v, 0 ≤ v → Q.safe 0 x v = true → P.safe 0 x v = true) : Q.most x ≤ P.most x := by
  obtain ⟨p1, p2, p3, p4⟩ := P.most_is x
  obtain ⟨q1, q2, q3, q4⟩ := Q.most_is x
  rcases Int.lt_or_le (P.most x) (Q.most x) with c | c
  · have := h (P.most x + 1) (by omega) (q3 _ (by omega) (by omega))
    rw [p4 (by omega)] at this; cases this
  · exact c

/-- One more zone, a longer train: no greater limits. -/
theorem Prof.over_more {P Q : Prof} (hF : ∀ j, j < P.nz → Q.F j = P.F j) (hT : ∀ j, j < P.nz → Q.T j = P.T j) (hS : ∀ j, j < P.nz → Q.S j = P.S j) (ht : P.train ≤ Q.train) (a b : Int) : ∀ k, k ≤ P.nz → Q.overTo a b k ≤ P.overTo a b k
  | 0, _ => Int.le_refl _
  | k + 1, h => by
    have ih := Prof.over_more hF hT hS ht a b k (by omega)
    unfold Prof.overTo
    rw [hF k (by omega), hT k (by omega), hS k (by omega)]
    split <;> split <;> omega
theorem Prof.over_last (P : Prof) (a b : Int) (k : Nat) : P.overTo a b (k + 1) ≤ P.overTo a b k := by
  conv => lhs; unfold Prof.overTo
  split <;> omega
theorem Prof.overTo_down (P : Prof) (a b : Int) (k : Nat) : ∀ m, P.overTo a b (k + m) ≤ P.overTo a b k
  | 0 => Int.le_refl _
  | m + 1 => Int.le_trans (P.over_last a b (k + m)) (P.overTo_down a b k m)
theorem Prof.may_tighter {P Q : Prof} (hn : P.nz ≤ Q.nz) (hF : ∀ j, j < P.nz → Q.F j = P.F j) (hT : ∀ j, j < P.nz → Q.T j = P.T j) (hS : ∀ j, j < P.nz → Q.S j = P.S j) (ht : P.train ≤ Q.train) (hf : Q.fin ≤ P.fin) (x v : Int) (h : Q.may x v = true) : P.may x v = true := by
  unfold Prof.may at *
  by_cases c : v = 0
  · rw [if_pos c] at *; simp at *; omega
  · rw [if_neg c] at *
    simp at *
    have h1 := Prof.over_more hF hT hS ht x (x + v) P.nz (Nat.le_refl _)
    have h2 := Q.overTo_down x (x + v) P.nz (Q.nz - P.nz)
    rw [show P.nz + (Q.nz - P.nz) = Q.nz by omega] at h2
    unfold Prof.over at *
    omega

/-- At the end: 0. -/
theorem Prof.most_end (P : Prof) : P.most P.fin = 0 := by
  refine (MostIs.unique (P := P) (x := P.fin) (m := 0) (n := P.most P.fin) ⟨by omega, by omega, fun u a b => ?_, fun _ => ?_⟩ (P.most_is _)).symm
  · have : u = 0 := by omega
    subst this
    refine Prof.safe_stand ?_
    unfold Prof.may; rw [if_pos rfl]; simp
  · refine Prof.safe_no ?_
    unfold Prof.may; rw [if_neg (by omega)]; simp; omega
/-- Not beyond the end: 0 is safe. -/
theorem Prof.safe_zero {P : Prof} {x : Int} (h : x ≤ P.fin) : P.safe 0 x 0 = true := Prof.safe_stand (by unfold Prof.may; rw [if_pos rfl]; simpa using h)
theorem Prof.most_pos {P : Prof} {x : Int} (h : x ≤ P.fin) : 0 ≤ P.most x := by
  obtain ⟨p1, p2, p3, p4⟩ := P.most_is x
  rcases Int.lt_or_le (P.most x) 0 with c | c
  · have e : P.most x = -1 := by omega
    have := p4 (by omega)
    rw [e, show (-1 : Int) + 1 = 0 by omega, Prof.safe_zero h] at this; cases this
  · exact c
/-- The moves of the delay end not beyond the end. -/
theorem Prof.safe_far {P : Prof} (hr : ∀ x, 1 ≤ P.rate x) {x v : Int} (hv : 0 < v) (h : P.safe 0 x v = true) : ∀ j : Nat, (j : Int) ≤ P.delay → P.safe j (x + j * v) v = true
  | 0, _ => by simpa using h
  | j + 1, hj => by
    have ih := P.safe_far hr hv h j (by omega)
    have := P.safe_next hr ih hv
    have hn : P.next j (x + j * v) v = v := by unfold Prof.next; rw [if_neg (by omega)]
    rw [hn] at this
    have e : x + (j : Int) * v + v = x + ((j + 1 : Nat) : Int) * v := by
      rw [show ((j + 1 : Nat) : Int) = (j : Int) + 1 by omega, Int.add_mul]; omega
    rw [e] at this
    simpa using this
theorem Prof.safe_delay {P : Prof} (hr : ∀ x, 1 ≤ P.rate x) {x v : Int} (hv : 0 < v) (hd : 0 ≤ P.delay) (h : P.safe 0 x v = true) : x + v * (P.delay + 1) ≤ P.fin := by
  have := Prof.may_end (Prof.safe_may (P.safe_far hr hv h P.delay.toNat (by omega)))
  have e : ((P.delay.toNat : Nat) : Int) = P.delay := by omega
  rw [e] at this
  rw [Int.mul_add, Int.mul_one, Int.mul_comm v P.delay]
  omega

end Go.Proofs.YteodefmpkljedaaDoor
