/-
  The program's chapter 3 as plain mathematics: bounds in the order in which a train meets them, a train between two ticks, the weakest brake ahead.
-/
import Derived.Test.YteodefmpkljedaaWatch
import Derived.Test.YteodefmpkljedaaImplBrake
namespace Go.Proofs.Yteodefmpkljedaa
open Go.RowKit
set_option linter.unusedVariables false

/-- What a course asks of its profile. -/
structure Prof.Fit (P : Prof) : Prop where
  np : 1 ≤ P.np
  up : P.Up
  rate : ∀ x, 1 ≤ P.rate x ∧ P.rate x ≤ 1000
  nz : P.nz ≤ 60
  zones : ∀ j, j < P.nz → (0 ≤ P.F j ∧ P.F j ≤ 100000000) ∧ (P.F j ≤ P.T j + P.train ∧ P.T j + P.train ≤ 200000000) ∧ (1 ≤ P.S j ∧ P.S j ≤ 10000)
  fin : 0 ≤ P.fin ∧ P.fin < 100000000
  delay : 0 ≤ P.delay ∧ P.delay ≤ 20
theorem Prof.total_less {P : Prof} (h : P.Lens) : P.total ≤ 99999960 := by
  have := sumTo_bounds h.2 P.np (Nat.le_refl _)
  have h1 := h.1
  unfold Prof.total
  omega
theorem Prof.Ok.fit {P : Prof} (h : P.Ok) : P.Fit := by
  have ht := Prof.total_less h.lens
  refine ⟨h.counts.1, h.lens.up, fun x => ?_, h.counts.2.2, fun j hj => ?_, ?_, h.delay⟩
  · have := h.rate x; omega
  · have := h.zones j hj
    have := h.train
    omega
  · have := h.fin; omega

/-- The bounds in the order in which they are laid: the end, then the zones. -/
def Prof.bound (P : Prof) (j : Nat) : Int × Int × Int := if j = 0 then (P.fin + 1, 100000000, -1) else (P.F (j - 1), P.T (j - 1) + P.train, P.S (j - 1))
def Hits (b : Int × Int × Int) (y u : Int) : Prop := b.1 ≤ y + u ∧ y ≤ b.2.1 ∧ b.2.2 < u
theorem Prof.overTo_iff (P : Prof) (a b u : Int) (hu : u ≤ 10000) : ∀ k, u ≤ P.overTo a b k ↔ ∀ j, j < k → P.F j ≤ b → a ≤ P.T j + P.train → u ≤ P.S j
  | 0 => ⟨fun _ j hj => by omega, fun _ => hu⟩
  | k + 1 => by
    have ih := P.overTo_iff a b u hu k
    unfold Prof.overTo
    constructor
    · intro h j hj h1 h2
      have hk : u ≤ P.overTo a b k := by
        split at h
        · omega
        · exact h
      by_cases c : j = k
      · subst c
        split at h
        · exact h
        · next q => omega
      · exact ih.1 hk j (by omega) h1 h2
    · intro h
      have hk := ih.2 (fun j hj => h j (by omega))
      split
      · next q => exact h k (by omega) q.1 q.2.1
      · exact hk
theorem Prof.Fit.may_iff {P : Prof} (h : P.Fit) {y u : Int} (hu : 0 ≤ u) (hu' : u ≤ 10000) (hy : y ≤ 100000000) : P.may y u = true ↔ ∀ j, j ≤ P.nz → ¬ Hits (P.bound j) y u := by
  unfold Prof.may
  by_cases c : u = 0
  · rw [if_pos c]
    constructor
    · intro g j hj
      simp at g
      unfold Hits Prof.bound
      by_cases d : j = 0
      · rw [if_pos d]; dsimp only; omega
      · rw [if_neg d]; dsimp only
        have := h.zones (j - 1) (by omega)
        omega
    · intro g
      have := g 0 (by omega)
      unfold Hits Prof.bound at this
      rw [if_pos rfl] at this
      dsimp only at this
      simp; omega
  · rw [if_neg c]
    have ho := P.overTo_iff y (y + u) u hu' P.nz
    constructor
    · intro g j hj
      simp at g
      unfold Prof.over at g
      unfold Hits Prof.bound
      by_cases d : j = 0
      · rw [if_pos d]; dsimp only; omega
      · rw [if_neg d]; dsimp only
        have := ho.1 g.2 (j - 1) (by omega)
        intro e
        have := this e.1 e.2.1
        omega
    · intro g
      have g0 := g 0 (by omega)
      unfold Hits Prof.bound at g0
      rw [if_pos rfl] at g0
      dsimp only at g0
      simp
      refine ⟨by omega, ?_⟩
      unfold Prof.over
      refine ho.2 (fun j hj h1 h2 => ?_)
      have := g (j + 1) (by omega)
      unfold Hits Prof.bound at this
      rw [if_neg (by omega)] at this
      rw [show j + 1 - 1 = j by omega] at this
      dsimp only at this
      omega

/-- The bounds of a course: the same ones, in order. -/
structure Prof.Bounds (P : Prof) (n : Nat) (b : Nat → Int × Int × Int) : Prop where
  sorted : ∀ i j, i ≤ j → j < n → (b i).1 ≤ (b j).1
  all : ∀ j, j ≤ P.nz → ∃ i, i < n ∧ b i = P.bound j
  only : ∀ i, i < n → ∃ j, j ≤ P.nz ∧ b i = P.bound j
/-- The first m bounds have nothing more to say to a train at y that moves by u. -/
def Done (b : Nat → Int × Int × Int) (m : Nat) (y u : Int) : Prop := ∀ i, i < m → (b i).2.1 < y ∨ u ≤ (b i).2.2
theorem Done.step {b : Nat → Int × Int × Int} {m : Nat} {y u y' u' : Int} (h : Done b m y u) (hy : y ≤ y') (hu : u' ≤ u) : Done b m y' u' := fun i hi => by have := h i hi; omega
theorem Done.start {b : Nat → Int × Int × Int} {y u : Int} : Done b 0 y u := fun i hi => by omega
theorem Done.more {b : Nat → Int × Int × Int} {m : Nat} {y u : Int} (h : Done b m y u) (g : (b m).2.1 < y ∨ u ≤ (b m).2.2) : Done b (m + 1) y u := fun i hi => by
  by_cases c : i = m
  · subst c; exact g
  · exact h i (by omega)
theorem Prof.Bounds.left {P : Prof} {n m : Nat} {b : Nat → Int × Int × Int} (B : P.Bounds n b) {y u : Int} (h : Done b m y u) (hm : m ≤ n) (hu : 0 ≤ u) (hy : y ≤ 100000000) : m < n := by
  obtain ⟨i, hi, e⟩ := B.all 0 (by omega)
  rcases Nat.lt_or_ge i m with c | c
  · have := h i c
    rw [e] at this
    unfold Prof.bound at this
    rw [if_pos rfl] at this
    dsimp only at this
    omega
  · omega
theorem Prof.Bounds.yes {P : Prof} {n m : Nat} {b : Nat → Int × Int × Int} (B : P.Bounds n b) (h : P.Fit) {y u : Int} (hD : Done b m y u) (hm : m < n) (hu : 0 ≤ u) (hu' : u ≤ 10000) (hy : y ≤ 100000000) (hf : y + u < (b m).1) : P.may y u = true := by
  rw [h.may_iff hu hu' hy]
  intro j hj
  obtain ⟨i, hi, e⟩ := B.all j hj
  rw [← e]
  unfold Hits
  rcases Nat.lt_or_ge i m with c | c
  · have := hD i c; omega
  · have := B.sorted m i c hi; omega
theorem Prof.Bounds.no {P : Prof} {n i : Nat} {b : Nat → Int × Int × Int} (B : P.Bounds n b) (h : P.Fit) {y u : Int} (hi : i < n) (hu : 0 ≤ u) (hu' : u ≤ 10000) (hy : y ≤ 100000000) (hh : Hits (b i) y u) : P.may y u = false := by
  cases c : P.may y u with
  | false => rfl
  | true =>
    obtain ⟨j, hj, e⟩ := B.only i hi
    exact absurd (e ▸ hh) ((h.may_iff hu hu' hy).1 c j hj)

/-- A train between two ticks. -/
structure Tr where
  speed : Int
  began : Int
  at_ : Int
  keeps : Int
def Prof.sent (P : Prof) (y u : Int) : Tr := ⟨u, y, y, P.delay + 1⟩
def Prof.tnext (P : Prof) (t : Tr) : Tr := if 0 < t.keeps then ⟨t.speed, t.at_, t.at_ + t.speed, t.keeps - 1⟩ else ⟨less t.speed (P.rate t.began), t.at_, t.at_ + less t.speed (P.rate t.began), t.keeps⟩
/-- The ticks of the delay that are left behind n. -/
def Prof.left (P : Prof) (n : Int) : Int := if n < P.delay then P.delay - n else 0
/-- A train that moved by u from y, n ticks being over. -/
def Prof.moved (P : Prof) (n y u : Int) : Tr := ⟨u, y, y + u, P.left n⟩
theorem Prof.tnext_sent {P : Prof} (h : 0 ≤ P.delay) (y u : Int) : P.tnext (P.sent y u) = P.moved 0 y u := by
  unfold Prof.tnext Prof.sent Prof.moved Prof.left
  dsimp only
  rw [if_pos (by omega)]
  congr 1
  split <;> omega
theorem Prof.tnext_moved (P : Prof) (n y u : Int) : P.tnext (P.moved n y u) = P.moved (n + 1) (y + u) (P.next n y u) := by
  unfold Prof.tnext Prof.moved Prof.left Prof.next
  dsimp only
  by_cases c : n < P.delay
  · rw [if_pos c, if_pos (by omega), if_neg (by omega)]
    congr 1
    split <;> omega
  · rw [if_neg c, if_neg (by omega), if_pos (by omega), if_neg (by omega)]

/-- What is let go with weaker brakes, at no less speed, from no less far, is let go. -/
theorem Prof.safe_slower {P Q : Prof} (hP : P.Fit) (hQ : Q.Fit) (hz : Q.nz = P.nz) (hb : ∀ j, Q.bound j = P.bound j) (hfin : Q.fin = P.fin) (hd : Q.delay = P.delay) {x : Int} (hr : ∀ y y', x ≤ y → y ≤ y' → y' ≤ P.fin → Q.rate y' ≤ P.rate y) :
    ∀ (f : Nat) (n y u y' u' : Int), P.fuel n u ≤ f → x ≤ y → y ≤ y' → 0 ≤ u → u ≤ u' → u' ≤ 10000 → Q.safe n y' u' = true → (∀ j, j ≤ P.nz → (P.bound j).1 ≤ y' + u' → (P.bound j).2.1 < y ∨ u' ≤ (P.bound j).2.2) → P.safe n y u = true
  | 0, n, y, u, y', u', hf, _, _, _, _, _, _, _ => by unfold Prof.fuel at hf; omega
  | f + 1, n, y, u, y', u', hf, hx, hy, h0, hu, hu', hs, hD => by
    have rP : ∀ x, 1 ≤ P.rate x := fun x => (hP.rate x).1
    have rQ : ∀ x, 1 ≤ Q.rate x := fun x => (hQ.rate x).1
    have qe := Prof.may_end (Prof.safe_may hs)
    rw [hfin] at qe
    have pf := hP.fin
    have hm : P.may y u = true := by
      rw [hP.may_iff h0 (by omega) (by omega)]
      intro j hj
      unfold Hits
      intro ⟨a, b, c⟩
      have := hD j hj (by omega)
      omega
    by_cases c : u = 0
    · subst c; exact Prof.safe_stand hm
    · have hs2 := Q.safe_next rQ hs (by omega)
      rw [P.safe_go rP hm (by omega)]
      have hfn := P.fuel_next rP (n := n) (x := y) (v := u) (by omega)
      have n1 := P.next_bounds rP (n := n) (x := y) (v := u) h0
      have n2 := Q.next_bounds rQ (n := n) (x := y') (v := u') (by omega)
      have n3 : P.next n y u ≤ Q.next n y' u' := by
        unfold Prof.next
        rw [hd]
        split
        · have := hr y y' hx hy (by omega)
          unfold less
          split <;> split <;> omega
        · exact hu
      refine Prof.safe_slower hP hQ hz hb hfin hd hr f (n + 1) (y + u) (P.next n y u) (y' + u') (Q.next n y' u') (by omega) (by omega) (by omega) n1.1 n3 (by omega) hs2 (fun j hj hj2 => ?_)
      by_cases d : (P.bound j).1 ≤ y' + u'
      · have := hD j hj d; omega
      · have hm2 := Prof.safe_may hs2
        have q2 := Prof.may_end hm2
        have := (hQ.may_iff n2.1 (by omega) (by omega)).1 hm2 j (by omega)
        rw [hb] at this
        unfold Hits at this
        have hle : (P.bound j).1 ≤ (P.bound j).2.1 := by
          unfold Prof.bound
          by_cases e : j = 0
          · rw [if_pos e]; dsimp only; omega
          · rw [if_neg e]; dsimp only
            have := hP.zones (j - 1) (by omega)
            omega
        omega
theorem Prof.safe_slower0 {P Q : Prof} (hP : P.Fit) (hQ : Q.Fit) (hz : Q.nz = P.nz) (hb : ∀ j, Q.bound j = P.bound j) (hfin : Q.fin = P.fin) (hd : Q.delay = P.delay) {x : Int} (hr : ∀ y y', x ≤ y → y ≤ y' → y' ≤ P.fin → Q.rate y' ≤ P.rate y) {u u' : Int} (h0 : 0 ≤ u) (hu : u ≤ u') (hu' : u' ≤ 10000) (hs : Q.safe 0 x u' = true) : P.safe 0 x u = true := by
  refine Prof.safe_slower hP hQ hz hb hfin hd hr (P.fuel 0 u) 0 x u x u' (Nat.le_refl _) (Int.le_refl _) (Int.le_refl _) h0 hu hu' hs (fun j hj hj2 => ?_)
  have hm := Prof.safe_may hs
  have qe := Prof.may_end hm
  have qf := hQ.fin
  have := (hQ.may_iff (by omega) hu' (by omega)).1 hm j (by omega)
  rw [hb] at this
  unfold Hits at this
  omega

theorem Prof.find_mono {P : Prof} (h : P.Up) {x y : Int} (hxy : x ≤ y) : P.find x ≤ P.find y := by
  rcases Nat.lt_or_ge (P.find y) (P.find x) with c | c
  · obtain ⟨a1, a2, a3, a4⟩ := P.find_found h x
    obtain ⟨b1, b2, b3, b4⟩ := P.find_found h y
    have e1 := a3 (P.find y) (by omega) (by omega)
    have e2 := b4 (P.find y) (by omega) (by omega)
    unfold Prof.above at e1 e2
    simp at e1 e2
    omega
  · exact c
theorem Prof.piece_mono {P : Prof} (h : P.Up) {x y : Int} (hxy : x ≤ y) : P.piece x ≤ P.piece y := by
  have := P.find_mono h hxy
  unfold Prof.piece
  split <;> split <;> omega
/-- The least of the first k brakes from a on. -/
def minB (B : Nat → Int) (a : Nat) : Nat → Int
  | 0 => 1000
  | k + 1 => if B (a + k) < minB B a k then B (a + k) else minB B a k
theorem minB_le (B : Nat → Int) (a : Nat) : ∀ k j, j < k → minB B a k ≤ B (a + j)
  | 0, j, h => by omega
  | k + 1, j, h => by
    have ih := minB_le B a k
    unfold minB
    by_cases c : j = k
    · subst c; split <;> omega
    · have := ih j (by omega)
      split <;> omega
theorem minB_in (B : Nat → Int) (a : Nat) : ∀ k, (∀ j, j < k → 10 ≤ B (a + j) ∧ B (a + j) ≤ 1000) → 10 ≤ minB B a k ∧ minB B a k ≤ 1000
  | 0, h => by unfold minB; omega
  | k + 1, h => by
    have ih := minB_in B a k (fun j hj => h j (by omega))
    have := h k (by omega)
    unfold minB
    split <;> omega
/-- How many pieces count for a train at x. -/
def Prof.span (P : Prof) (x : Int) : Nat := (if P.piece x < P.piece P.fin then P.piece P.fin else P.piece x) + 1 - P.piece x
def Prof.weakest (P : Prof) (x : Int) : Int := minB P.B (P.piece x) (P.span x)
def Prof.weak (P : Prof) (x : Int) : Prof := { P with np := 1, L := fun _ => P.total, B := fun _ => P.weakest x }
theorem Prof.span_le {P : Prof} (h1 : 1 ≤ P.np) (x : Int) : 1 ≤ P.span x ∧ P.piece x + P.span x ≤ P.np := by
  have := P.piece_lt h1 x
  have := P.piece_lt h1 P.fin
  unfold Prof.span
  split <;> omega
theorem Prof.Ok.weakest {P : Prof} (h : P.Ok) (x : Int) : 10 ≤ P.weakest x ∧ P.weakest x ≤ 1000 := by
  have hs := P.span_le h.counts.1 x
  exact minB_in _ _ _ (fun j hj => (h.pieces _ (by omega)).2)
theorem Prof.weak_rate (P : Prof) (x y : Int) : (P.weak x).rate y = P.weakest x := by
  unfold Prof.rate Prof.weak
  dsimp only
  unfold rateUp
  split
  · rfl
  · unfold rateUp; rfl
theorem Prof.Ok.weakest_le {P : Prof} (h : P.Ok) {x y : Int} (h1 : x ≤ y) (h2 : y ≤ P.fin) : P.weakest x ≤ P.rate y := by
  rw [Prof.rate_piece h.lens.up h.counts.1]
  have e1 := P.piece_mono h.lens.up h1
  have e2 := P.piece_mono h.lens.up h2
  have := minB_le P.B (P.piece x) (P.span x) (P.piece y - P.piece x) (by unfold Prof.span; split <;> omega)
  rw [show P.piece x + (P.piece y - P.piece x) = P.piece y by omega] at this
  exact this
theorem Prof.Ok.weakFit {P : Prof} (h : P.Ok) (x : Int) : (P.weak x).Fit := by
  have hf := h.fit
  have ht := h.lens
  have hb := P.total_bounds ht
  have hn := h.counts.1
  refine ⟨Nat.le_refl _, ⟨(by show 1 ≤ 60; omega), fun j hj => ?_⟩, fun y => ?_, hf.nz, hf.zones, hf.fin, hf.delay⟩
  · show 1 ≤ P.total; omega
  · rw [P.weak_rate]; have := h.weakest x; omega
theorem Prof.weak_bounds {P : Prof} {n : Nat} {b : Nat → Int × Int × Int} (B : P.Bounds n b) (x : Int) : (P.weak x).Bounds n b := ⟨B.sorted, B.all, B.only⟩
/-- What is safe with the weakest brake is safe, and at less too. -/
theorem Prof.Ok.weak_safe {P : Prof} (h : P.Ok) {x u : Int} (h0 : 0 ≤ u) (hu : u ≤ 10000) (hs : (P.weak x).safe 0 x u = true) : P.safe 0 x u = true :=
  Prof.safe_slower0 (P := P) (Q := P.weak x) h.fit (h.weakFit x) rfl (fun _ => rfl) rfl rfl (fun y y' a b c => by rw [P.weak_rate]; exact h.weakest_le a (by omega)) h0 (Int.le_refl _) hu hs
theorem Prof.Ok.weak_mono {P : Prof} (h : P.Ok) {x u u' : Int} (h0 : 0 ≤ u) (hu : u ≤ u') (hu' : u' ≤ 10000) (hs : (P.weak x).safe 0 x u' = true) : (P.weak x).safe 0 x u = true :=
  Prof.safe_slower0 (P := P.weak x) (Q := P.weak x) (h.weakFit x) (h.weakFit x) rfl (fun _ => rfl) rfl rfl (fun y y' a b c => by rw [P.weak_rate, P.weak_rate]; exact Int.le_refl _) h0 hu hu' hs
/-- What isSafe answers. -/
def Prof.isSafe (P : Prof) (x u : Int) : Bool := decide (0 ≤ u ∧ u ≤ 10000) && P.safe 0 x u
theorem Prof.most_of {P : Prof} {x v : Int} (h0 : 0 ≤ v) (hv : v ≤ 10001) (h : ∀ u, 0 ≤ u → u < v → P.safe 0 x u = true) (g : P.isSafe x v = false) : P.most x = v - 1 := by
  refine MostIs.unique (P.most_is x) ⟨by omega, by omega, fun u a b => h u a (by omega), fun c => ?_⟩
  rw [show v - 1 + 1 = v by omega]
  unfold Prof.isSafe at g
  have : decide (0 ≤ v ∧ v ≤ 10000) = true := by simp; omega
  rw [this] at g
  simpa using g

end Go.Proofs.Yteodefmpkljedaa
