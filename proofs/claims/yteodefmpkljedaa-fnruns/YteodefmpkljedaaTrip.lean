/-
  The program's chapter 4 as plain mathematics: the greatest speed of a move from a place, a search that ends early, the fastest run by the fewest ticks.
-/
import Derived.Test.YteodefmpkljedaaCourse
import Derived.Test.YteodefmpkljedaaFill
namespace Go.Proofs.Yteodefmpkljedaa
open Go.RowKit
set_option linter.unusedVariables false

/-- The greatest speed that the first k bounds let a move from a place have. -/
def mostTo (b : Nat → Int × Int × Int) (y : Int) : Nat → Int
  | 0 => 60
  | k + 1 => if y ≤ (b k).2.1 then min (mostTo b y k) (max (b k).2.2 ((b k).1 - 1 - y)) else mostTo b y k
theorem mostTo_iff (b : Nat → Int × Int × Int) (y u : Int) (hu : u ≤ 60) : ∀ k, u ≤ mostTo b y k ↔ ∀ i, i < k → ¬ Hits (b i) y u
  | 0 => ⟨fun _ i hi => absurd hi (Nat.not_lt_zero i), fun _ => hu⟩
  | k + 1 => by
    have ih := mostTo_iff b y u hu k
    unfold mostTo
    constructor
    · intro h i hi
      have hk : u ≤ mostTo b y k := by split at h <;> omega
      by_cases c : i = k
      · subst c
        unfold Hits
        split at h <;> omega
      · exact ih.1 hk i (by omega)
    · intro h
      have hk := ih.2 (fun i hi => h i (by omega))
      have := h k (by omega)
      unfold Hits at this
      split <;> omega
theorem mostTo_le (b : Nat → Int × Int × Int) (y : Int) : ∀ k, mostTo b y k ≤ 60
  | 0 => Int.le_refl _
  | k + 1 => by have := mostTo_le b y k; unfold mostTo; split <;> omega
theorem Prof.Fit.may_zero {P : Prof} {y : Int} (hy : y ≤ P.fin) : P.may y 0 = true := by
  unfold Prof.may
  rw [if_pos rfl]
  simp; omega
theorem Prof.Bounds.most_iff {P : Prof} {n : Nat} {b : Nat → Int × Int × Int} (B : P.Bounds n b) (h : P.Fit) {y u : Int} (hu : 0 ≤ u) (hu' : u ≤ 60) (hy : y ≤ P.fin) : u ≤ mostTo b y n ↔ P.may y u = true := by
  have hf := h.fin
  rw [mostTo_iff b y u hu' n, h.may_iff hu (by omega) (by omega)]
  constructor
  · intro g j hj
    obtain ⟨i, hi, e⟩ := B.all j hj
    exact e ▸ g i hi
  · intro g i hi
    obtain ⟨j, hj, e⟩ := B.only i hi
    exact e ▸ g j hj
/-- The greatest speed of a move from a place. -/
def Prof.top (P : Prof) (y : Int) : Int := bestUp (fun w => P.may y w) 0 61 0
theorem Prof.Bounds.most_is {P : Prof} {n : Nat} {b : Nat → Int × Int × Int} (B : P.Bounds n b) (h : P.Fit) {y : Int} (hy : y ≤ P.fin) : mostTo b y n = P.top y := by
  have h0 := (B.most_iff h (Int.le_refl 0) (by omega) hy).2 (Prof.Fit.may_zero hy)
  have h1 := mostTo_le b y n
  rcases bestUp_is (fun w => P.may y w) 61 0 0 with ⟨_, g⟩ | ⟨g1, g2, g3, g4⟩
  · have := g 0 (by omega) (by omega)
    rw [Prof.Fit.may_zero hy] at this
    simp at this
  · change 0 ≤ P.top y at g1
    change P.top y < _ at g2
    change P.may y (P.top y) = true at g3
    have h2 := (B.most_iff h g1 (by omega) hy).2 g3
    rcases Int.lt_or_le (P.top y) (mostTo b y n) with c | c
    · have h3 := (B.most_iff h h0 h1 hy).1 (Int.le_refl _)
      have := g4 _ c (by omega)
      rw [h3] at this
      simp at this
    · omega
/-- The bounds as they are laid. -/
theorem Prof.top_iff {P : Prof} (h : P.Fit) {y u : Int} (hu : 0 ≤ u) (hu' : u ≤ 60) (hy : y ≤ P.fin) : P.may y u = true ↔ u ≤ P.top y := by
  have key : ∀ u, 0 ≤ u → u ≤ 60 → (u ≤ mostTo P.bound y (P.nz + 1) ↔ P.may y u = true) := fun u g0 g1 => by
    have hf := h.fin
    rw [mostTo_iff P.bound y u g1 (P.nz + 1), h.may_iff g0 (by omega) (by omega)]
    exact ⟨fun g j hj => g j (by omega), fun g j hj => g j (by omega)⟩
  have h0 := (key 0 (by omega) (by omega)).2 (Prof.Fit.may_zero hy)
  have h1 := mostTo_le P.bound y (P.nz + 1)
  have e : mostTo P.bound y (P.nz + 1) = P.top y := by
    rcases bestUp_is (fun w => P.may y w) 61 0 0 with ⟨_, g⟩ | ⟨g1, g2, g3, g4⟩
    · have := g 0 (by omega) (by omega)
      rw [Prof.Fit.may_zero hy] at this
      simp at this
    · change 0 ≤ P.top y at g1
      change P.top y < _ at g2
      change P.may y (P.top y) = true at g3
      have h2 := (key _ g1 (by omega)).2 g3
      rcases Int.lt_or_le (P.top y) (mostTo P.bound y (P.nz + 1)) with c | c
      · have h3 := (key _ h0 h1).1 (Int.le_refl _)
        have := g4 _ c (by omega)
        rw [h3] at this
        simp at this
      · omega
  rw [← key u hu hu', e]
theorem Prof.top_in {P : Prof} (h : P.Fit) {y : Int} (hy : y ≤ P.fin) : 0 ≤ P.top y ∧ P.top y ≤ 60 ∧ y + P.top y ≤ P.fin := by
  have h0 := (P.top_iff h (Int.le_refl 0) (by omega) hy).1 (Prof.Fit.may_zero hy)
  have h1 : P.top y ≤ 60 := by
    rcases bestUp_is (fun w => P.may y w) 61 0 0 with ⟨g, _⟩ | ⟨g1, g2, g3, g4⟩
    · change P.top y = 0 at g; omega
    · change P.top y < _ at g2; omega
  have h2 := Prof.may_end ((P.top_iff h h0 h1 hy).2 (Int.le_refl _))
  omega
/-- A speed that can follow, as the program says it. -/
theorem Prof.goes_top {P : Prof} (h : P.Fit) {acc x d v w : Int} (ha : 0 ≤ acc) (v0 : 0 ≤ v) (v1 : v ≤ 60) (hd : x + d ≤ P.fin) : P.goes acc x d v w = true ↔ max (v - P.rate (x + d)) 0 ≤ w ∧ w ≤ min (v + acc) (P.top (x + d)) := by
  have ht := P.top_in h hd
  have hl : less v (P.rate (x + d)) = max (v - P.rate (x + d)) 0 := by unfold less; split <;> omega
  rw [Prof.goes_iff, hl]
  unfold high
  constructor
  · rintro ⟨⟨h1, h2⟩, h3⟩
    have h4 : w ≤ 60 := by split at h2 <;> omega
    have := (P.top_iff h (by omega) h4 hd).1 h3
    refine ⟨h1, ?_⟩
    split at h2 <;> omega
  · rintro ⟨h1, h2⟩
    refine ⟨⟨h1, ?_⟩, (P.top_iff h (by omega) (by omega) hd).2 (by omega)⟩
    split <;> omega

/-- A search that ends where N steps are made. -/
theorem Bfs.upto {E : Nat → Nat → Prop} {home : Nat → Prop} {L : Nat → Int} {q : Nat → Nat} {len i N : Nat} (h : Bfs E home L q len i) (hi : i = len ∨ (i < len ∧ (N : Int) ≤ L (q i))) {m s : Nat} (c : Can E home m s) : m ≤ N → 0 ≤ L s ∧ L s ≤ m := by
  induction m generalizing s with
  | zero => intro _; have := h.homes _ c; omega
  | succ m ih =>
    intro hm
    obtain ⟨t, he, c'⟩ := c
    have ih := ih c' (by omega)
    obtain ⟨j, hj, e⟩ := h.all _ ih.1
    have hji : j < i := by
      rcases hi with g | ⟨g, g'⟩
      · omega
      · rcases Nat.lt_or_ge j i with c | c
        · exact c
        · have := h.mono i j c hj
          rw [e] at this
          omega
    have := h.done j hji _ (e ▸ he)
    rw [e] at this
    omega
theorem least_of {p : Nat → Prop} : ∀ n, p n → ∃ m, p m ∧ ∀ k, p k → m ≤ k := fun n => by
  induction n using Nat.strongRecOn with
  | ind n ih =>
    intro hn
    by_cases c : ∃ k, k < n ∧ p k
    · obtain ⟨k, hk, hp⟩ := c
      exact ih k hk hp
    · refine ⟨n, hn, fun k hk => ?_⟩
      rcases Nat.lt_or_ge k n with d | d
      · exact absurd ⟨k, d, hk⟩ c
      · exact d
theorem few_ex (E : Nat → Nat → Prop) (home : Nat → Prop) (s : Nat) : ∃ l : Int, (l < 0 ∧ ∀ m, ¬ Can E home m s) ∨ (0 ≤ l ∧ Can E home l.toNat s ∧ ∀ m, Can E home m s → l ≤ m) := by
  by_cases c : ∃ n, Can E home n s
  · obtain ⟨n, hn⟩ := c
    obtain ⟨m, h1, h2⟩ := least_of (p := fun m => Can E home m s) n hn
    exact ⟨m, Or.inr ⟨by omega, by simpa using h1, fun k hk => by have := h2 k hk; omega⟩⟩
  · exact ⟨-1, Or.inl ⟨by omega, fun m hm => c ⟨m, hm⟩⟩⟩
/-- The fewest ticks home from a state, below 0 for never. -/
structure Few where
  few : Prof → Int → Int → Int → Nat → Int
  is : ∀ (P : Prof) (acc x short : Int), Fewest (P.way acc x) (P.homeN x short) (few P acc x short)
theorem few_all : Nonempty Few := ⟨⟨fun P acc x short s => Classical.choose (few_ex (P.way acc x) (P.homeN x short) s), fun P acc x short s => Classical.choose_spec (few_ex (P.way acc x) (P.homeN x short) s)⟩⟩
/-- Two tables that say the same of all counts up to N. -/
def SameTo (N : Nat) (L M : Nat → Int) : Prop := ∀ s k : Nat, k ≤ N → (L s = k ↔ M s = k)
theorem Fewest.sameTo {E : Nat → Nat → Prop} {home : Nat → Prop} {L M : Nat → Int} (h : Fewest E home L) (g : Fewest E home M) (N : Nat) : SameTo N L M := fun s k _ => by
  rcases h.same g s with c | c <;> omega
theorem Bfs.sameTo {E : Nat → Nat → Prop} {home : Nat → Prop} {L M : Nat → Int} {q : Nat → Nat} {len i N : Nat} (h : Bfs E home L q len i) (hi : i = len ∨ (i < len ∧ (N : Int) ≤ L (q i))) (g : Fewest E home M) : SameTo N L M := fun s k hk => by
  constructor
  · intro e
    have h1 := h.sound s (by omega)
    rw [e] at h1
    have h2 := g.can h1
    have h3 := h.upto hi (g.is (s := s) (k := (M s).toNat) (by omega)) (by simp at h2; omega)
    simp at h2
    omega
  · intro e
    have h1 := h.upto hi (g.is e) hk
    have h2 := g.can (h.sound s h1.1)
    omega
theorem Prof.fleet_congr {P : Prof} {acc x : Int} {L M : Nat → Int} {N k : Nat} (h : SameTo N L M) (hk : k ≤ N) (d v : Int) : P.fleet acc x L k d v = P.fleet acc x M k d v := by
  have : (fun w => P.may (x + d) w && decide (L (stn (d + w) w) = (k : Int))) = (fun w => P.may (x + d) w && decide (M (stn (d + w) w) = (k : Int))) := by
    funext w
    rw [decide_eq_decide.2 (h _ k hk)]
  unfold Prof.fleet
  rw [this]
theorem Prof.fastL_congr {P : Prof} {acc x : Int} {L M : Nat → Int} {N : Nat} (h : SameTo N L M) : ∀ (k : Nat) (d v : Int), k ≤ N → P.fastL acc x L k d v = P.fastL acc x M k d v
  | 0, _, _, _ => rfl
  | k + 1, d, v, hk => by
    unfold Prof.fastL
    rw [Prof.fleet_congr h (show k ≤ N by omega), Prof.fastL_congr h k _ _ (by omega)]
/-- Whether there is a run of at most 2000 ticks; how many it has; its speeds. -/
def Few.hasRun (Fw : Few) (P : Prof) (acc x short : Int) : Prop := P.runGood acc x short = true ∧ 0 ≤ Fw.few P acc x short (stn 0 0) ∧ Fw.few P acc x short (stn 0 0) ≤ 2000
def Few.runT (Fw : Few) (P : Prof) (acc x short : Int) : Nat := (Fw.few P acc x short (stn 0 0)).toNat
def Few.runL (Fw : Few) (P : Prof) (acc x short : Int) : List Int := P.fastL acc x (Fw.few P acc x short) (Fw.runT P acc x short) 0 0
theorem Few.runL_length (Fw : Few) (P : Prof) (acc x short : Int) : (Fw.runL P acc x short).length = Fw.runT P acc x short := P.fastL_length acc x _ _ _ _
theorem Few.runL_fast {Fw : Few} {P : Prof} {acc x short : Int} (h : Fw.hasRun P acc x short) : P.Fast acc x short (Fw.runL P acc x short) := by
  obtain ⟨g, h0, h1⟩ := h
  obtain ⟨hok, ha, hx, _⟩ := Prof.runGood_iff.1 g
  exact Prof.fastL_fast (fun y => (hok.fit.rate y).1) (by omega) hx.2 (Fw.is P acc x short) (by unfold Few.runT; omega)
/-- A table that agrees up to 2000, at the beginning. -/
theorem Few.few_at {Fw : Few} {P : Prof} {acc x short : Int} {L : Nat → Int} (hL : SameTo 2000 L (Fw.few P acc x short)) : (0 ≤ L (stn 0 0) ∧ L (stn 0 0) ≤ 2000) ↔ (0 ≤ Fw.few P acc x short (stn 0 0) ∧ Fw.few P acc x short (stn 0 0) ≤ 2000) := by
  constructor
  · intro h
    have := (hL (stn 0 0) (L (stn 0 0)).toNat (by omega)).1 (by omega)
    omega
  · intro h
    have := (hL (stn 0 0) (Fw.few P acc x short (stn 0 0)).toNat (by omega)).2 (by omega)
    omega
/-- A state's turn from its first speed on. -/
theorem Prof.Turn.from' {P : Prof} {acc x short : Int} {L : Nat → Int} {q : Nat → Nat} {len i : Nat} {D w m : Int} (h : Bfs (P.way acc x) (P.homeN x short) L q len i) (hi : i < len) (e : q i = stn D w) (hn : ∀ v, 0 ≤ v → v < m → P.goes acc x (D - w) v w = false) : P.Turn acc x short L q len i D w m :=
  ⟨h, hi, e, fun v v0 v1 hg => by rw [hn v v0 v1] at hg; simp at hg⟩
theorem Prof.Turn.to' {P : Prof} {acc x short : Int} {L : Nat → Int} {q : Nat → Nat} {len i : Nat} {D w m : Int} (h : P.Turn acc x short L q len i D w m) (hn : ∀ v, m ≤ v → v ≤ 60 → P.goes acc x (D - w) v w = false) : P.Turn acc x short L q len i D w 61 :=
  ⟨h.bfs, h.lt, h.at', fun v v0 v1 hg => by
    rcases Int.lt_or_le v m with c | c
    · exact h.met v v0 c hg
    · rw [hn v c (by omega)] at hg; simp at hg⟩

end Go.Proofs.Yteodefmpkljedaa
