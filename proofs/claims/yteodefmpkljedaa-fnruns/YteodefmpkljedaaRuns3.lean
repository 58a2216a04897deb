/-
  Chapter 4 as plain mathematics, on: the fastest run, from the fewest ticks of each state.
-/
import Derived.Test.YteodefmpkljedaaRuns2
namespace Go.Proofs.Yteodefmpkljedaa
open Go.RowKit
set_option linter.unusedVariables false

/-- By state the fewest steps home, below 0 for never. -/
def Fewest (E : Nat → Nat → Prop) (home : Nat → Prop) (L : Nat → Int) : Prop := ∀ s, (L s < 0 ∧ ∀ m, ¬ Can E home m s) ∨ (0 ≤ L s ∧ Can E home (L s).toNat s ∧ ∀ m, Can E home m s → L s ≤ m)
theorem Fewest.can {E : Nat → Nat → Prop} {home : Nat → Prop} {L : Nat → Int} (h : Fewest E home L) {s m : Nat} (c : Can E home m s) : 0 ≤ L s ∧ L s ≤ m := by
  rcases h s with ⟨_, h2⟩ | ⟨h1, _, h3⟩
  · exact absurd c (h2 m)
  · exact ⟨h1, h3 m c⟩
theorem Fewest.is {E : Nat → Nat → Prop} {home : Nat → Prop} {L : Nat → Int} (h : Fewest E home L) {s k : Nat} (e : L s = k) : Can E home k s := by
  rcases h s with ⟨h1, _⟩ | ⟨_, h2, _⟩
  · omega
  · rw [e] at h2; exact h2
theorem Fewest.same {E : Nat → Nat → Prop} {home : Nat → Prop} {L M : Nat → Int} (h : Fewest E home L) (g : Fewest E home M) (s : Nat) : (L s < 0 ∧ M s < 0) ∨ L s = M s := by
  rcases h s with ⟨h1, h2⟩ | ⟨h1, h2, h3⟩
  · rcases g s with ⟨g1, g2⟩ | ⟨g1, g2, g3⟩
    · exact Or.inl ⟨h1, g1⟩
    · exact absurd g2 (h2 _)
  · have := g.can h2
    have := h.can (g.is (s := s) (k := (M s).toNat) (by omega))
    right; omega
/-- The greatest speed that keeps to the fewest ticks. -/
def Prof.fleet (P : Prof) (acc x : Int) (L : Nat → Int) (k d v : Int) : Int :=
  bestUp (fun w => P.may (x + d) w && decide (L (stn (d + w) w) = k)) (less v (P.rate (x + d))) (high acc v + 1 - less v (P.rate (x + d))).toNat 0
def Prof.fastL (P : Prof) (acc x : Int) (L : Nat → Int) : Nat → Int → Int → List Int
  | 0, _, _ => []
  | k + 1, d, v => P.fleet acc x L k d v :: P.fastL acc x L k (d + P.fleet acc x L k d v) (P.fleet acc x L k d v)
theorem Prof.fastL_length (P : Prof) (acc x : Int) (L : Nat → Int) : ∀ (k : Nat) (d v : Int), (P.fastL acc x L k d v).length = k
  | 0, _, _ => rfl
  | k + 1, d, v => by unfold Prof.fastL; simp [Prof.fastL_length P acc x L k]
/-- The first is greater where they first part. -/
def later : List Int → List Int → Prop
  | a :: us, b :: ts => b < a ∨ (a = b ∧ later us ts)
  | _, _ => False
theorem later_or : ∀ (us ts : List Int), us.length = ts.length → us = ts ∨ later us ts ∨ later ts us
  | [], [], _ => Or.inl rfl
  | a :: us, b :: ts, h => by
    rcases Int.lt_trichotomy a b with c | c | c
    · exact Or.inr (Or.inr (Or.inl c))
    · subst c
      rcases later_or us ts (by simpa using h) with e | e | e
      · exact Or.inl (by rw [e])
      · exact Or.inr (Or.inl (Or.inr ⟨rfl, e⟩))
      · exact Or.inr (Or.inr (Or.inr ⟨rfl, e⟩))
    · exact Or.inr (Or.inl (Or.inl c))
/-- Speeds that go on from a state of the fewest ticks, in as many: the next state has one fewer. -/
theorem Prof.one_fewer {P : Prof} (hr : ∀ y, 1 ≤ P.rate y) {acc x short : Int} (ha : 0 ≤ acc) {L : Nat → Int} (hL : Fewest (P.way acc x) (P.homeN x short) L) {k : Nat} {d v w : Int} {ws : List Int} (d0 : 0 ≤ d) (d1 : x + d ≤ P.fin) (v0 : 0 ≤ v) (v1 : v ≤ 60) (e : L (stn d v) = (k + 1 : Nat)) (ho : P.onward acc x short (w :: ws) d v) (hw : ws.length = k) : L (stn (d + w) w) = k := by
  have hg := Prof.goes_in hr ha v0 v1 ho.1
  have hc := Prof.can_of hr ha ws (d + w) w (by omega) (by omega) hg.1 hg.2.1 ho.2
  have h1 := hL.can hc
  have h2 := hL.is (s := stn (d + w) w) (k := (L (stn (d + w) w)).toNat) (by omega)
  have h3 := hL.can (Can.step (E := P.way acc x) (s := stn d v) ⟨d, v, w, ⟨d0, d1⟩, ⟨v0, v1⟩, rfl, rfl, ho.1⟩ h2)
  omega
/-- What 'goes' says of a speed. -/
theorem Prof.goes_iff {P : Prof} {acc x d v w : Int} : P.goes acc x d v w = true ↔ (less v (P.rate (x + d)) ≤ w ∧ w ≤ high acc v) ∧ P.may (x + d) w = true := by
  unfold Prof.goes
  simp only [Bool.and_eq_true, decide_eq_true_eq]
theorem Prof.fleet_is {P : Prof} (hr : ∀ y, 1 ≤ P.rate y) {acc x short : Int} (ha : 0 ≤ acc) {L : Nat → Int} (hL : Fewest (P.way acc x) (P.homeN x short) L) {k : Nat} {d v : Int} (d0 : 0 ≤ d) (d1 : x + d ≤ P.fin) (v0 : 0 ≤ v) (v1 : v ≤ 60) (e : L (stn d v) = (k + 1 : Nat)) :
    P.goes acc x d v (P.fleet acc x L k d v) = true ∧ L (stn (d + P.fleet acc x L k d v) (P.fleet acc x L k d v)) = k ∧ ∀ w ws, P.onward acc x short (w :: ws) d v → ws.length = k → w ≤ P.fleet acc x L k d v := by
  have key : ∀ w ws, P.onward acc x short (w :: ws) d v → ws.length = k → (less v (P.rate (x + d)) ≤ w ∧ w < less v (P.rate (x + d)) + ((high acc v + 1 - less v (P.rate (x + d))).toNat : Nat)) ∧ (fun w => P.may (x + d) w && decide (L (stn (d + w) w) = k)) w = true := fun w ws ho hw => by
    have h1 := Prof.one_fewer hr ha hL d0 d1 v0 v1 e ho hw
    have h2 := Prof.goes_iff.1 ho.1
    refine ⟨⟨h2.1.1, by omega⟩, ?_⟩
    simp only [Bool.and_eq_true, decide_eq_true_eq]
    exact ⟨h2.2, h1⟩
  obtain ⟨us, hl, ho⟩ := Prof.of_can hr ha (hL.is e) d v d0 v0 v1 rfl
  rcases bestUp_is (fun w => P.may (x + d) w && decide (L (stn (d + w) w) = k)) (high acc v + 1 - less v (P.rate (x + d))).toNat (less v (P.rate (x + d))) 0 with ⟨_, h⟩ | ⟨h1, h2, h3, h4⟩
  · cases us with
    | nil => simp at hl
    | cons u us =>
      have h5 := key u us ho (by simpa using hl)
      exact absurd (h5.2.symm.trans (h u h5.1.1 h5.1.2)) (by simp)
  · change less v (P.rate (x + d)) ≤ P.fleet acc x L k d v at h1
    change P.fleet acc x L k d v < _ at h2
    change (P.may (x + d) (P.fleet acc x L k d v) && decide (L (stn (d + P.fleet acc x L k d v) (P.fleet acc x L k d v)) = k)) = true at h3
    simp only [Bool.and_eq_true, decide_eq_true_eq] at h3
    refine ⟨Prof.goes_iff.2 ⟨⟨h1, by omega⟩, h3.1⟩, h3.2, fun w ws hw hl' => ?_⟩
    have h5 := key w ws hw hl'
    rcases Int.lt_or_le (P.fleet acc x L k d v) w with c | c
    · exact absurd (h5.2.symm.trans (h4 w c h5.1.2)) (by simp)
    · exact c
/-- The run by the fewest ticks comes home, and none as short is greater where they first part. -/
theorem Prof.fastL_is {P : Prof} (hr : ∀ y, 1 ≤ P.rate y) {acc x short : Int} (ha : 0 ≤ acc) {L : Nat → Int} (hL : Fewest (P.way acc x) (P.homeN x short) L) : ∀ (k : Nat) (d v : Int), 0 ≤ d → x + d ≤ P.fin → 0 ≤ v → v ≤ 60 → L (stn d v) = k →
    P.onward acc x short (P.fastL acc x L k d v) d v ∧ ∀ ws, P.onward acc x short ws d v → ws.length = k → ¬ later ws (P.fastL acc x L k d v)
  | 0, d, v, d0, d1, v0, v1, e => by
    obtain ⟨us, hl, ho⟩ := Prof.of_can hr ha (hL.is e) d v d0 v0 v1 rfl
    cases us with
    | nil => exact ⟨ho, fun ws _ hw => by cases ws with | nil => intro hl; simp [later] at hl | cons _ _ => simp at hw⟩
    | cons _ _ => simp at hl
  | k + 1, d, v, d0, d1, v0, v1, e => by
    obtain ⟨h1, h2, h3⟩ := Prof.fleet_is hr ha hL d0 d1 v0 v1 e
    have hg := Prof.goes_in hr ha v0 v1 h1
    obtain ⟨i1, i2⟩ := Prof.fastL_is hr ha hL k (d + P.fleet acc x L k d v) (P.fleet acc x L k d v) (by omega) (by omega) hg.1 hg.2.1 h2
    refine ⟨⟨h1, i1⟩, fun ws ho hw hl => ?_⟩
    cases ws with
    | nil => simp at hw
    | cons w ws =>
      have hw' : ws.length = k := by simpa using hw
      have hle := h3 w ws ho hw'
      rcases hl with c | ⟨c, hl⟩
      · omega
      · refine i2 ws ?_ hw' hl
        rw [← c]
        exact ho.2
/-- The numbers of a row as a list. -/
def ofZ (z : Nat → Int) (j : Nat) : Nat → List Int
  | 0 => []
  | m + 1 => z j :: ofZ z (j + 1) m
theorem ofZ_length (z : Nat → Int) : ∀ m j, (ofZ z j m).length = m
  | 0, _ => rfl
  | m + 1, j => by unfold ofZ; simp [ofZ_length z m]
theorem Prof.goesTo_all {P : Prof} {acc x : Int} {z : Nat → Int} : ∀ n, P.goesTo acc x z n = true ↔ ∀ i, i < n → P.goes acc x (rst z i).1 (rst z i).2 (z i) = true
  | 0 => ⟨fun _ i h => absurd h (Nat.not_lt_zero i), fun _ => rfl⟩
  | n + 1 => by
    unfold Prof.goesTo
    rw [Bool.and_eq_true, Prof.goesTo_all n]
    refine ⟨fun h i hi => ?_, fun h => ⟨fun i hi => h i (by omega), h n (by omega)⟩⟩
    by_cases c : i = n
    · subst c; exact h.2
    · exact h.1 i (by omega)
theorem Prof.onward_ofZ {P : Prof} {acc x short : Int} {z : Nat → Int} : ∀ m j, P.onward acc x short (ofZ z j m) (rst z j).1 (rst z j).2 ↔ (∀ i, j ≤ i → i < j + m → P.goes acc x (rst z i).1 (rst z i).2 (z i) = true) ∧ P.home x short (rst z (j + m)).1 (rst z (j + m)).2 = true
  | 0, j => ⟨fun h => ⟨fun i h1 h2 => absurd h2 (by omega), h⟩, fun h => h.2⟩
  | m + 1, j => by
    have ih := P.onward_ofZ (acc := acc) (x := x) (short := short) (z := z) m (j + 1)
    rw [show j + 1 + m = j + (m + 1) by omega] at ih
    refine ⟨fun h => ?_, fun h => ⟨h.1 j (by omega) (by omega), ih.2 ⟨fun i h1 h2 => h.1 i (by omega) h2, h.2⟩⟩⟩
    have h' := ih.1 h.2
    refine ⟨fun i h1 h2 => ?_, h'.2⟩
    by_cases c : i = j
    · subst c; exact h.1
    · exact h'.1 i (by omega) h2
/-- A run by its numbers is one by its list. -/
theorem Prof.isRun_iff {P : Prof} {acc x short : Int} {z : Nat → Int} {n : Nat} : P.isRun acc x short z n = true ↔ P.onward acc x short (ofZ z 0 n) 0 0 := by
  have h := P.onward_ofZ (acc := acc) (x := x) (short := short) (z := z) n 0
  rw [Nat.zero_add] at h
  unfold Prof.isRun
  rw [Bool.and_eq_true, Prof.goesTo_all]
  exact ⟨fun g => h.2 ⟨fun i _ h2 => g.1 i h2, g.2⟩, fun g => ⟨fun i h2 => (h.1 g).1 i (by omega) h2, (h.1 g).2⟩⟩
/-- What can be done with less to gain in a tick can be done with more. -/
theorem Prof.onward_acc {P : Prof} {acc acc' x short : Int} (h : acc ≤ acc') : ∀ (ws : List Int) (d v : Int), P.onward acc x short ws d v → P.onward acc' x short ws d v
  | [], _, _, ho => ho
  | w :: ws, d, v, ho => by
    have h1 := Prof.goes_iff.1 ho.1
    refine ⟨Prof.goes_iff.2 ⟨⟨h1.1.1, ?_⟩, h1.2⟩, Prof.onward_acc h ws _ _ ho.2⟩
    have := h1.1.2
    unfold high at this ⊢
    split <;> split at this <;> omega
/-- The fastest run. -/
structure Prof.Fast (P : Prof) (acc x short : Int) (ws : List Int) : Prop where
  run : P.onward acc x short ws 0 0
  few : ∀ us, P.onward acc x short us 0 0 → ws.length ≤ us.length
  first : ∀ us, P.onward acc x short us 0 0 → us.length = ws.length → ¬ later us ws
/-- There is but one. -/
theorem Prof.Fast.one {P : Prof} {acc x short : Int} {ws us : List Int} (h : P.Fast acc x short ws) (g : P.Fast acc x short us) : ws = us := by
  have e : ws.length = us.length := Nat.le_antisymm (h.few us g.run) (g.few ws h.run)
  rcases later_or ws us e with c | c | c
  · exact c
  · exact absurd c (g.first ws h.run e)
  · exact absurd c (h.first us g.run e.symm)
/-- It is the one by the fewest ticks. -/
theorem Prof.fastL_fast {P : Prof} (hr : ∀ y, 1 ≤ P.rate y) {acc x short : Int} (ha : 0 ≤ acc) (hx : x ≤ P.fin) {L : Nat → Int} (hL : Fewest (P.way acc x) (P.homeN x short) L) {k : Nat} (e : L (stn 0 0) = k) : P.Fast acc x short (P.fastL acc x L k 0 0) := by
  have h := Prof.fastL_is hr ha hL k 0 0 (by omega) (by omega) (by omega) (by omega) e
  refine ⟨h.1, fun us hu => ?_, fun us hu hl => h.2 us hu (hl.trans (P.fastL_length acc x L k 0 0))⟩
  have := hL.can (Prof.can_of hr ha us 0 0 (by omega) (by omega) (by omega) (by omega) hu)
  rw [P.fastL_length]
  omega
theorem Prof.no_run {P : Prof} (hr : ∀ y, 1 ≤ P.rate y) {acc x short : Int} (ha : 0 ≤ acc) (hx : x ≤ P.fin) {L : Nat → Int} (hL : Fewest (P.way acc x) (P.homeN x short) L) (e : L (stn 0 0) < 0) : ∀ us, ¬ P.onward acc x short us 0 0 := fun us hu => by
  have := hL.can (Prof.can_of hr ha us 0 0 (by omega) (by omega) (by omega) (by omega) hu)
  omega

end Go.Proofs.Yteodefmpkljedaa
