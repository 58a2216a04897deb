/-
  Chapter 3 as plain mathematics: what is safe, the greatest speed, what a watched train does.
  Chapter 3 as plain mathematics, on: a watched train, what is tighter, the curve's end.
-/
import Derived.Test.YteodefmpkljedaaWay
namespace Go.Proofs.Yteodefmpkljedaa
open Go.RowKit
set_option linter.unusedVariables false

/-- A train may move by v from x. -/
def Prof.may (P : Prof) (x v : Int) : Bool := if v = 0 then decide (x ≤ P.fin) else decide (x + v ≤ P.fin ∧ v ≤ P.over x (x + v))
/-- The next speed, when n ticks have been at this one. -/
def Prof.next (P : Prof) (n x v : Int) : Int := if P.delay ≤ n then less v (P.rate x) else v
def Prof.safeIn (P : Prof) : Nat → Int → Int → Int → Bool
  | 0, _, _, _ => false
  | f + 1, n, x, v => if P.may x v = true then (if v = 0 then true else P.safeIn f (n + 1) (x + v) (P.next n x v)) else false
def Prof.fuel (P : Prof) (n v : Int) : Nat := (P.delay - n).toNat + v.toNat + 1
/-- From x on, by v, n ticks being over: all can still be kept to. -/
def Prof.safe (P : Prof) (n x v : Int) : Bool := P.safeIn (P.fuel n v) n x v

theorem Prof.next_bounds {P : Prof} (hr : ∀ x, 1 ≤ P.rate x) {n x v : Int} (hv : 0 ≤ v) : 0 ≤ P.next n x v ∧ P.next n x v ≤ v := by
  unfold Prof.next
  split
  · exact less_bounds hv (by have := hr x; omega)
  · omega
theorem Prof.fuel_next {P : Prof} (hr : ∀ x, 1 ≤ P.rate x) {n x v : Int} (hv : 0 < v) : P.fuel (n + 1) (P.next n x v) < P.fuel n v := by
  unfold Prof.fuel Prof.next
  by_cases c : P.delay ≤ n
  · rw [if_pos c]
    have := less_lt (v := v) (b := P.rate x) (by omega) (hr x)
    have := less_bounds (v := v) (b := P.rate x) (by omega) (by have := hr x; omega)
    omega
  · rw [if_neg c]; omega
theorem Prof.safeIn_more {P : Prof} (hr : ∀ x, 1 ≤ P.rate x) : ∀ (f g : Nat) (n x v : Int), 0 ≤ v → P.fuel n v ≤ f → P.fuel n v ≤ g → P.safeIn f n x v = P.safeIn g n x v
  | 0, _, n, x, v, _, h, _ => by unfold Prof.fuel at h; omega
  | _ + 1, 0, n, x, v, _, _, h => by unfold Prof.fuel at h; omega
  | f + 1, g + 1, n, x, v, hv, h, k => by
    unfold Prof.safeIn
    by_cases c : P.may x v = true
    · rw [if_pos c, if_pos c]
      by_cases d : v = 0
      · rw [if_pos d, if_pos d]
      · rw [if_neg d, if_neg d]
        have hf := P.fuel_next hr (n := n) (x := x) (v := v) (by omega)
        exact P.safeIn_more hr f g _ _ _ (P.next_bounds hr hv).1 (by omega) (by omega)
    · rw [if_neg c, if_neg c]
theorem Prof.safe_no {P : Prof} {n x v : Int} (h : P.may x v = false) : P.safe n x v = false := by
  unfold Prof.safe Prof.fuel Prof.safeIn
  rw [if_neg (by rw [h]; simp)]
theorem Prof.safe_stand {P : Prof} {n x : Int} (h : P.may x 0 = true) : P.safe n x 0 = true := by
  unfold Prof.safe Prof.fuel Prof.safeIn
  rw [if_pos h, if_pos rfl]
theorem Prof.safe_go {P : Prof} (hr : ∀ x, 1 ≤ P.rate x) {n x v : Int} (h : P.may x v = true) (hv : 0 < v) : P.safe n x v = P.safe (n + 1) (x + v) (P.next n x v) := by
  conv => lhs; unfold Prof.safe Prof.fuel Prof.safeIn
  rw [if_pos h, if_neg (by omega)]
  unfold Prof.safe
  have hf := P.fuel_next hr (n := n) (x := x) (v := v) hv
  exact P.safeIn_more hr _ _ _ _ _ (P.next_bounds hr (by omega)).1 (by unfold Prof.fuel at hf; unfold Prof.fuel; omega) (Nat.le_refl _)
/-- What is safe may move, and is safe behind its move. -/
theorem Prof.safe_may {P : Prof} {n x v : Int} (h : P.safe n x v = true) : P.may x v = true := by
  cases c : P.may x v with
  | true => rfl
  | false => rw [Prof.safe_no c] at h; cases h
theorem Prof.safe_next {P : Prof} (hr : ∀ x, 1 ≤ P.rate x) {n x v : Int} (h : P.safe n x v = true) (hv : 0 < v) : P.safe (n + 1) (x + v) (P.next n x v) = true := by
  rw [← P.safe_go hr (P.safe_may h) hv]; exact h
theorem Prof.Ok.rates {P : Prof} (h : P.Ok) : ∀ x, 1 ≤ P.rate x := fun x => by have := h.rate x; omega
/-- A later tick is no slower to brake: what is safe early is safe with the delay over, from the same place and speed. -/
theorem Prof.may_end {P : Prof} {x v : Int} (h : P.may x v = true) : x + v ≤ P.fin := by
  unfold Prof.may at h
  split at h
  · simp at h; omega
  · simp at h; omega

/-- The greatest speed such that it and all below are safe. -/
def MostIs (P : Prof) (x m : Int) : Prop := -1 ≤ m ∧ m ≤ 10000 ∧ (∀ u, 0 ≤ u → u ≤ m → P.safe 0 x u = true) ∧ (m < 10000 → P.safe 0 x (m + 1) = false)
theorem MostIs.unique {P : Prof} {x m n : Int} (h : MostIs P x m) (g : MostIs P x n) : m = n := by
  obtain ⟨h1, h2, h3, h4⟩ := h
  obtain ⟨g1, g2, g3, g4⟩ := g
  rcases Int.lt_trichotomy m n with c | c | c
  · have := g3 (m + 1) (by omega) (by omega); rw [h4 (by omega)] at this; cases this
  · exact c
  · have := h3 (n + 1) (by omega) (by omega); rw [g4 (by omega)] at this; cases this
def Prof.mostUp (P : Prof) (x : Int) : Nat → Int → Int
  | 0, v => v - 1
  | f + 1, v => if P.safe 0 x v = true then P.mostUp x f (v + 1) else v - 1
def Prof.most (P : Prof) (x : Int) : Int := P.mostUp x 10001 0
theorem Prof.mostUp_is (P : Prof) (x : Int) : ∀ (f : Nat) (v : Int), 0 ≤ v → v + f = 10001 → (∀ u, 0 ≤ u → u < v → P.safe 0 x u = true) → MostIs P x (P.mostUp x f v)
  | 0, v, h0, h, g => by
    unfold Prof.mostUp
    exact ⟨by omega, by omega, fun u a b => g u a (by omega), fun c => by omega⟩
  | f + 1, v, h0, h, g => by
    unfold Prof.mostUp
    by_cases c : P.safe 0 x v = true
    · rw [if_pos c]
      refine P.mostUp_is x f (v + 1) (by omega) (by omega) (fun u a b => ?_)
      by_cases d : u = v
      · subst d; exact c
      · exact g u a (by omega)
    · rw [if_neg c]
      refine ⟨by omega, by omega, fun u a b => g u a (by omega), fun _ => ?_⟩
      rw [show v - 1 + 1 = v by omega]
      simpa using c
theorem Prof.most_is (P : Prof) (x : Int) : MostIs P x (P.most x) := P.mostUp_is x 10001 0 (by omega) (by omega) (fun u a b => by omega)
theorem Prof.most_bounds (P : Prof) (x : Int) : -1 ≤ P.most x ∧ P.most x ≤ 10000 := ⟨(P.most_is x).1, (P.most_is x).2.1⟩

/-- The answers of chapter 3. -/
def Prof.safeAns (P : Prof) (x v : Int) : Bool := decide (P.code = 0 ∧ 0 ≤ x ∧ x ≤ P.total ∧ 0 ≤ v ∧ v ≤ 10000) && P.safe 0 x v
def Prof.mostAns (P : Prof) (x : Int) : Int := if P.code = 0 ∧ 0 ≤ x ∧ x ≤ P.total then P.most x else -1

end Go.Proofs.Yteodefmpkljedaa

namespace Go.Proofs.Yteodefmpkljedaa
open Go.RowKit
set_option linter.unusedVariables false

/-- A watched train: where it is, its last speed, where its last move began, ticks since a want was let through, ticks braked. -/
structure WSt where
  x : Int
  v : Int
  was : Int
  n : Int
  braked : Int
def Prof.wstep (P : Prof) (k : Nat) (s : WSt) (w : Int) : WSt :=
  if 0 ≤ w ∧ w ≤ 10000 ∧ P.safe 0 s.x w = true then ⟨s.x + w, w, s.x, 0, s.braked⟩
  else if k = 0 then ⟨s.x + s.v, s.v, s.x, s.n, s.braked + 1⟩
  else ⟨s.x + P.next s.n s.was s.v, P.next s.n s.was s.v, s.x, s.n + 1, s.braked + 1⟩
def Prof.wst (P : Prof) (x v : Int) (z : Nat → Int) : Nat → WSt
  | 0 => ⟨x, v, x, 0, 0⟩
  | k + 1 => P.wstep k (P.wst x v z k) (z k)
/-- What always holds of it. -/
def Prof.WInv (P : Prof) (x : Int) (k : Nat) (s : WSt) : Prop :=
  0 ≤ s.v ∧ s.v ≤ 10000 ∧ 0 ≤ s.was ∧ (k = 0 → s.x = s.was ∧ s.x = x) ∧ (1 ≤ k → s.x = s.was + s.v) ∧ 0 ≤ s.x ∧ s.x ≤ P.fin ∧ 0 ≤ s.n ∧ s.n ≤ k ∧ 0 ≤ s.braked ∧ s.braked ≤ k ∧ P.safe s.n s.was s.v = true
theorem Prof.wstep_inv {P : Prof} (hr : ∀ x, 1 ≤ P.rate x) {x : Int} {k : Nat} {s : WSt} (h : P.WInv x k s) (w : Int) : P.WInv x (k + 1) (P.wstep k s w) ∧ (P.wstep k s w).was = s.x := by
  obtain ⟨h1, h2, h3, h4, h5, h6, h7, h8, h9, h10, h11, h12⟩ := h
  unfold Prof.wstep
  by_cases c : 0 ≤ w ∧ w ≤ 10000 ∧ P.safe 0 s.x w = true
  · rw [if_pos c]
    have he := Prof.may_end (Prof.safe_may c.2.2)
    refine ⟨⟨c.1, c.2.1, h6, fun e => by omega, fun _ => rfl, ?_, ?_, ?_, ?_, h10, ?_, c.2.2⟩, rfl⟩
    all_goals (dsimp only; omega)
  · rw [if_neg c]
    by_cases d : k = 0
    · rw [if_pos d]
      obtain ⟨e1, e2⟩ := h4 d
      have hs : P.safe s.n s.x s.v = true := by rw [e1]; exact h12
      have he := Prof.may_end (Prof.safe_may hs)
      refine ⟨⟨h1, h2, h6, fun e => by omega, fun _ => rfl, ?_, ?_, h8, ?_, ?_, ?_, hs⟩, rfl⟩
      all_goals (dsimp only; omega)
    · rw [if_neg d]
      have e5 := h5 (by omega)
      have hn := P.next_bounds hr (n := s.n) (x := s.was) (v := s.v) h1
      have hs : P.safe (s.n + 1) s.x (P.next s.n s.was s.v) = true := by
        by_cases z : 0 < s.v
        · rw [e5]; exact P.safe_next hr h12 z
        · have z0 : s.v = 0 := by omega
          have hx : P.next s.n s.was s.v = 0 := by omega
          rw [hx]
          refine Prof.safe_stand ?_
          have := Prof.safe_may h12
          rw [z0] at this
          rw [e5, z0, Int.add_zero]
          exact this
      have he := Prof.may_end (Prof.safe_may hs)
      refine ⟨⟨hn.1, ?_, h6, fun e => by omega, fun _ => rfl, ?_, ?_, ?_, ?_, ?_, ?_, hs⟩, rfl⟩
      all_goals (dsimp only; omega)
theorem Prof.wst_inv {P : Prof} (hr : ∀ x, 1 ≤ P.rate x) {x v : Int} (z : Nat → Int) (hx : 0 ≤ x) (hv : 0 ≤ v) (hv' : v ≤ 10000) (hs : P.safe 0 x v = true) : ∀ k, P.WInv x k (P.wst x v z k)
  | 0 => by
    have he := Prof.may_end (Prof.safe_may hs)
    exact ⟨hv, hv', hx, fun _ => ⟨rfl, rfl⟩, fun h => by omega, hx, by show x ≤ P.fin; omega, Int.le_refl _, Int.le_refl _, Int.le_refl _, Int.le_refl _, hs⟩
  | k + 1 => (P.wstep_inv hr (P.wst_inv hr z hx hv hv' hs k) (z k)).1
theorem Prof.wst_was {P : Prof} (hr : ∀ x, 1 ≤ P.rate x) {x v : Int} (z : Nat → Int) (hx : 0 ≤ x) (hv : 0 ≤ v) (hv' : v ≤ 10000) (hs : P.safe 0 x v = true) (k : Nat) : (P.wst x v z (k + 1)).was = (P.wst x v z k).x :=
  (P.wstep_inv hr (P.wst_inv hr z hx hv hv' hs k) (z k)).2
/-- The top promise: no move ends beyond the end, none is faster than its limit. -/
theorem Prof.watched {P : Prof} (hr : ∀ x, 1 ≤ P.rate x) {x v : Int} (z : Nat → Int) (hx : 0 ≤ x) (hv : 0 ≤ v) (hv' : v ≤ 10000) (hs : P.safe 0 x v = true) (k : Nat) :
    0 ≤ (P.wst x v z (k + 1)).v ∧ (P.wst x v z (k + 1)).x = (P.wst x v z k).x + (P.wst x v z (k + 1)).v ∧ P.may (P.wst x v z k).x (P.wst x v z (k + 1)).v = true := by
  have h := P.wst_inv hr z hx hv hv' hs (k + 1)
  have e := P.wst_was hr z hx hv hv' hs k
  obtain ⟨h1, h2, h3, h4, h5, h6, h7, h8, h9, h10, h11, h12⟩ := h
  have h5' := h5 (by omega)
  rw [e] at h5' h12
  exact ⟨h1, h5', Prof.safe_may h12⟩

/-- Of two profiles with the same pieces and the same delay: what may be done in the one may be done in the other. -/
theorem Prof.safe_looser {P Q : Prof} (hr : ∀ x, 1 ≤ P.rate x) (he : ∀ x, Q.rate x = P.rate x) (hd : Q.delay = P.delay) (hm : ∀ x v, 0 ≤ v → Q.may x v = true → P.may x v = true) {n x v : Int} (hv : 0 ≤ v) (h : Q.safe n x v = true) : P.safe n x v = true := by
  have hrQ : ∀ x, 1 ≤ Q.rate x := fun x => by rw [he]; exact hr x
  obtain ⟨f, hf⟩ : ∃ f, P.fuel n v ≤ f := ⟨_, Nat.le_refl _⟩
  induction f generalizing n x v with
  | zero => unfold Prof.fuel at hf; omega
  | succ f ih =>
    have hmay := hm x v hv (Prof.safe_may h)
    by_cases c : v = 0
    · subst c; exact Prof.safe_stand hmay
    · rw [P.safe_go hr hmay (by omega)]
      have hx : Q.next n x v = P.next n x v := by unfold Prof.next; rw [hd, he]
      have h' := Q.safe_next hrQ h (by omega)
      rw [hx] at h'
      have hfn := P.fuel_next hr (n := n) (x := x) (v := v) (by omega)
      exact ih (P.next_bounds hr hv).1 h' (by omega)
theorem Prof.most_looser {P Q : Prof} {x : Int} (h : ∀ v, 0 ≤ v → Q.safe 0 x v = true → P.safe 0 x v = true) : Q.most x ≤ P.most x := by
  obtain ⟨p1, p2, p3, p4⟩ := P.most_is x
  obtain ⟨q1, q2, q3, q4⟩ := Q.most_is x
  rcases Int.lt_or_le (P.most x) (Q.most x) with c | c
  · have := h (P.most x + 1) (by omega) (q3 _ (by omega) (by omega))
    rw [p4 (by omega)] at this; cases this
  · exact c

/-- One more zone, a longer train: no greater limits. -/
theorem Prof.over_more {P Q : Prof} (hF : ∀ j, j < P.nz → Q.F j = P.F j) (hT : ∀ j, j < P.nz → Q.T j = P.T j) (hS : ∀ j, j < P.nz → Q.S j = P.S j) (ht : P.train ≤ Q.train) (a b : Int) : ∀ k, k ≤ P.nz → Q.overTo a b k ≤ P.overTo a b k
  | 0, _ => Int.le_refl _
  | k + 1, h => by
    have ih := Prof.over_more hF hT hS ht a b k (by omega)
    unfold Prof.overTo
    rw [hF k (by omega), hT k (by omega), hS k (by omega)]
    split <;> split <;> omega
theorem Prof.over_last (P : Prof) (a b : Int) (k : Nat) : P.overTo a b (k + 1) ≤ P.overTo a b k := by
  conv => lhs; unfold Prof.overTo
  split <;> omega
theorem Prof.overTo_down (P : Prof) (a b : Int) (k : Nat) : ∀ m, P.overTo a b (k + m) ≤ P.overTo a b k
  | 0 => Int.le_refl _
  | m + 1 => Int.le_trans (P.over_last a b (k + m)) (P.overTo_down a b k m)
theorem Prof.may_tighter {P Q : Prof} (hn : P.nz ≤ Q.nz) (hF : ∀ j, j < P.nz → Q.F j = P.F j) (hT : ∀ j, j < P.nz → Q.T j = P.T j) (hS : ∀ j, j < P.nz → Q.S j = P.S j) (ht : P.train ≤ Q.train) (hf : Q.fin ≤ P.fin) (x v : Int) (h : Q.may x v = true) : P.may x v = true := by
  unfold Prof.may at *
  by_cases c : v = 0
  · rw [if_pos c] at *; simp at *; omega
  · rw [if_neg c] at *
    simp at *
    have h1 := Prof.over_more hF hT hS ht x (x + v) P.nz (Nat.le_refl _)
    have h2 := Q.overTo_down x (x + v) P.nz (Q.nz - P.nz)
    rw [show P.nz + (Q.nz - P.nz) = Q.nz by omega] at h2
    unfold Prof.over at *
    omega

/-- At the end: 0. -/
theorem Prof.most_end (P : Prof) : P.most P.fin = 0 := by
  refine (MostIs.unique (P := P) (x := P.fin) (m := 0) (n := P.most P.fin) ⟨by omega, by omega, fun u a b => ?_, fun _ => ?_⟩ (P.most_is _)).symm
  · have : u = 0 := by omega
    subst this
    refine Prof.safe_stand ?_
    unfold Prof.may; rw [if_pos rfl]; simp
  · refine Prof.safe_no ?_
    unfold Prof.may; rw [if_neg (by omega)]; simp; omega
/-- Not beyond the end: 0 is safe. -/
theorem Prof.safe_zero {P : Prof} {x : Int} (h : x ≤ P.fin) : P.safe 0 x 0 = true := Prof.safe_stand (by unfold Prof.may; rw [if_pos rfl]; simpa using h)
theorem Prof.most_pos {P : Prof} {x : Int} (h : x ≤ P.fin) : 0 ≤ P.most x := by
  obtain ⟨p1, p2, p3, p4⟩ := P.most_is x
  rcases Int.lt_or_le (P.most x) 0 with c | c
  · have e : P.most x = -1 := by omega
    have := p4 (by omega)
    rw [e, show (-1 : Int) + 1 = 0 by omega, Prof.safe_zero h] at this; cases this
  · exact c
/-- The moves of the delay end not beyond the end. -/
theorem Prof.safe_far {P : Prof} (hr : ∀ x, 1 ≤ P.rate x) {x v : Int} (hv : 0 < v) (h : P.safe 0 x v = true) : ∀ j : Nat, (j : Int) ≤ P.delay → P.safe j (x + j * v) v = true
  | 0, _ => by simpa using h
  | j + 1, hj => by
    have ih := P.safe_far hr hv h j (by omega)
    have := P.safe_next hr ih hv
    have hn : P.next j (x + j * v) v = v := by unfold Prof.next; rw [if_neg (by omega)]
    rw [hn] at this
    have e : x + (j : Int) * v + v = x + ((j + 1 : Nat) : Int) * v := by
      rw [show ((j + 1 : Nat) : Int) = (j : Int) + 1 by omega, Int.add_mul]; omega
    rw [e] at this
    simpa using this
theorem Prof.safe_delay {P : Prof} (hr : ∀ x, 1 ≤ P.rate x) {x v : Int} (hv : 0 < v) (hd : 0 ≤ P.delay) (h : P.safe 0 x v = true) : x + v * (P.delay + 1) ≤ P.fin := by
  have := Prof.may_end (Prof.safe_may (P.safe_far hr hv h P.delay.toNat (by omega)))
  have e : ((P.delay.toNat : Nat) : Int) = P.delay := by omega
  rw [e] at this
  rw [Int.mul_add, Int.mul_one, Int.mul_comm v P.delay]
  omega

end Go.Proofs.Yteodefmpkljedaa
