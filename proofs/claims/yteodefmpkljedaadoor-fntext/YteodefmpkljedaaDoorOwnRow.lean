/-
  Rows that a call has made by append: their cells, read as pairs, triples, single numbers.
-/
import Derived.Test.YteodefmpkljedaaDoorProf
import Derived.WalkKit
namespace Go.Proofs.YteodefmpkljedaaDoor
open Go.RowKit
set_option linter.unusedVariables false

/-- The cells of k pairs. -/
def pairs (f g : Nat → Int) : Nat → List Value
  | 0 => []
  | k + 1 => pairs f g k ++ [.int .i64 (f k), .int .i64 (g k)]
theorem pairs_length (f g : Nat → Int) : ∀ k, (pairs f g k).length = k * 2
  | 0 => rfl
  | k + 1 => by simp [pairs, pairs_length f g k]; omega
theorem pairs_get (f g : Nat → Int) : ∀ (k j : Nat), j < k → (pairs f g k)[j * 2]? = some (.int .i64 (f j)) ∧ (pairs f g k)[j * 2 + 1]? = some (.int .i64 (g j))
  | 0, j, h => by omega
  | k + 1, j, h => by
    have hl := pairs_length f g k
    by_cases c : j = k
    · subst c
      constructor
      · rw [pairs, List.getElem?_append_right (by omega), hl]; simp
      · rw [pairs, List.getElem?_append_right (by omega), hl]; simp
    · have ih := pairs_get f g k j (by omega)
      constructor
      · rw [pairs, List.getElem?_append_left (by omega)]; exact ih.1
      · rw [pairs, List.getElem?_append_left (by omega)]; exact ih.2

/-- The cells of k triples. -/
def triples (f g h : Nat → Int) : Nat → List Value
  | 0 => []
  | k + 1 => triples f g h k ++ [.int .i64 (f k), .int .i64 (g k), .int .i64 (h k)]
theorem triples_length (f g h : Nat → Int) : ∀ k, (triples f g h k).length = k * 3
  | 0 => rfl
  | k + 1 => by simp [triples, triples_length f g h k]; omega
theorem triples_get (f g h : Nat → Int) : ∀ (k j : Nat), j < k → (triples f g h k)[j * 3]? = some (.int .i64 (f j)) ∧ (triples f g h k)[j * 3 + 1]? = some (.int .i64 (g j)) ∧ (triples f g h k)[j * 3 + 2]? = some (.int .i64 (h j))
  | 0, j, hj => by omega
  | k + 1, j, hj => by
    have hl := triples_length f g h k
    by_cases c : j = k
    · subst c
      refine ⟨?_, ?_, ?_⟩ <;> (rw [triples, List.getElem?_append_right (by omega), hl]; simp)
    · have ih := triples_get f g h k j (by omega)
      refine ⟨?_, ?_, ?_⟩ <;> rw [triples, List.getElem?_append_left (by omega)]
      · exact ih.1
      · exact ih.2.1
      · exact ih.2.2

/-- The cells of k numbers. -/
def singles (f : Nat → Int) : Nat → List Value
  | 0 => []
  | k + 1 => singles f k ++ [.int .i64 (f k)]
theorem singles_length (f : Nat → Int) : ∀ k, (singles f k).length = k
  | 0 => rfl
  | k + 1 => by simp [singles, singles_length f k]
theorem singles_get (f : Nat → Int) : ∀ (k j : Nat), j < k → (singles f k)[j]? = some (.int .i64 (f j))
  | 0, j, hj => by omega
  | k + 1, j, hj => by
    have hl := singles_length f k
    by_cases c : j = k
    · subst c
      rw [singles, List.getElem?_append_right (by omega), hl]; simp
    · rw [singles, List.getElem?_append_left (by omega)]
      exact singles_get f k j (by omega)
theorem pairs_congr {f g f' g' : Nat → Int} : ∀ k, (∀ j, j < k → f j = f' j ∧ g j = g' j) → pairs f g k = pairs f' g' k
  | 0, _ => rfl
  | k + 1, h => by rw [pairs, pairs, pairs_congr k (fun j hj => h j (by omega)), (h k (by omega)).1, (h k (by omega)).2]

theorem ownsRow_below {w w1 : World} {base e size n : Nat} {v : Value} {xs : List Value} (h : w.ownsRow base e size v n xs) (hb : Below w.heap.size w w1) : w1.ownsRow base e size v n xs := by
  obtain ⟨h1, h2⟩ := h
  refine ⟨h1, ?_⟩
  rcases h2 with h2 | ⟨g, cap, cur, h2, h3, h4, h5⟩
  · exact Or.inl h2
  · exact Or.inr ⟨g, cap, cur, h2, h3, (hb.block g (Array.getElem?_eq_some_iff.1 h4).1).trans h4, h5⟩

theorem ownsRow_block {w : World} {base e size n : Nat} {v : Value} {xs : List Value} (h : w.ownsRow base e size v n xs) : ∀ k, v.ownBlock = some k → base ≤ k := by
  intro k hk
  rcases h.2 with ⟨rfl, _⟩ | ⟨g, cap, cur, rfl, h3, _⟩
  · cases hk
  · simp [Value.ownBlock] at hk; omega

/-- A number's row. -/
def Row1 (w : World) (a : Option Addr) (n : Nat) (z : Nat → Int) : Prop :=
  n = 0 ∨ ∃ b off, a = some ⟨b, off, none⟩ ∧ b < w.heap.size ∧ ∀ j, j < n → w.cell? ⟨b, off + j, none⟩ = some (.int .i64 (z j))
theorem Row1.below {w w1 : World} {a : Option Addr} {n : Nat} {z : Nat → Int} (h : Row1 w a n z) (hb : Below w.heap.size w w1) : Row1 w1 a n z := by
  rcases h with h | ⟨b, off, rfl, hlt, hc⟩
  · exact Or.inl h
  · exact Or.inr ⟨b, off, rfl, Nat.lt_of_lt_of_le hlt hb.size, fun j hj => by rw [hb.cell hlt]; exact hc j hj⟩
/-- What is owned can be read. -/
theorem owned_cell {w : World} {base e size n : Nat} {v : Value} {xs : List Value} (h : w.ownsRow base e size v n xs) (hn : 1 ≤ n) : ∃ g cap, v = .slice (some ⟨g, 0, none⟩) n cap ∧ base ≤ g ∧ g < w.heap.size ∧ ∀ (i : Nat) (u : Value), xs[i]? = some u → w.cell? ⟨g, i, none⟩ = some u := by
  obtain ⟨hl, h2⟩ := h
  rcases h2 with ⟨_, h0⟩ | ⟨g, cap, cur, hv, hb, hh, hc, hm, hs, ht⟩
  · omega
  · refine ⟨g, cap, hv, hb, (Array.getElem?_eq_some_iff.1 hh).1, fun i u hi => ?_⟩
    have hlen : i < xs.length := by
      rcases Nat.lt_or_ge i xs.length with c | c
      · exact c
      · rw [List.getElem?_eq_none c] at hi; cases hi
    simp only [World.cell?, hh]
    rw [← ht, List.getElem?_take, if_pos (by omega)] at hi
    simpa using hi
theorem owned_shape {w : World} {base e size n : Nat} {v : Value} {xs : List Value} (h : w.ownsRow base e size v n xs) : ∃ a cap, v = .slice a n cap ∧ n ≤ cap ∧ cap ≤ 9223372036854775807 ∧ (n = 0 ∨ ∃ g, a = some ⟨g, 0, none⟩ ∧ base ≤ g) := by
  rcases h.2 with ⟨rfl, rfl⟩ | ⟨g, cap, cur, hv, hb, hh, hc, hm, hs, ht⟩
  · exact ⟨none, 0, rfl, by omega, by omega, Or.inl rfl⟩
  · exact ⟨_, cap, hv, hc, by unfold maxLen at hm; omega, Or.inr ⟨g, rfl, hb⟩⟩
theorem owned_row2 {w : World} {base e n : Nat} {a : Option Addr} {cap : Nat} {f g : Nat → Int} (h : w.ownsRow base e 2 (.slice a n cap) n (pairs f g n)) : Row2 w a n f g := by
  rcases Nat.eq_zero_or_pos n with c | c
  · exact Or.inl c
  · obtain ⟨b, cap', hv, _, hlt, hc⟩ := owned_cell h c
    cases hv
    exact Or.inr ⟨b, 0, rfl, hlt, fun j hj => ⟨by rw [Nat.zero_add]; exact hc _ _ (pairs_get f g n j hj).1, by rw [Nat.zero_add]; exact hc _ _ (pairs_get f g n j hj).2⟩⟩
theorem owned_row3 {w : World} {base e n : Nat} {a : Option Addr} {cap : Nat} {f g k : Nat → Int} (h : w.ownsRow base e 3 (.slice a n cap) n (triples f g k n)) : Row3 w a n f g k := by
  rcases Nat.eq_zero_or_pos n with c | c
  · exact Or.inl c
  · obtain ⟨b, cap', hv, _, hlt, hc⟩ := owned_cell h c
    cases hv
    exact Or.inr ⟨b, 0, rfl, hlt, fun j hj => ⟨by rw [Nat.zero_add]; exact hc _ _ (triples_get f g k n j hj).1, by rw [Nat.zero_add]; exact hc _ _ (triples_get f g k n j hj).2.1, by rw [Nat.zero_add]; exact hc _ _ (triples_get f g k n j hj).2.2⟩⟩
theorem owned_row1 {w : World} {base e n : Nat} {a : Option Addr} {cap : Nat} {f : Nat → Int} (h : w.ownsRow base e 1 (.slice a n cap) n (singles f n)) : Row1 w a n f := by
  rcases Nat.eq_zero_or_pos n with c | c
  · exact Or.inl c
  · obtain ⟨b, cap', hv, _, hlt, hc⟩ := owned_cell h c
    cases hv
    exact Or.inr ⟨b, 0, rfl, hlt, fun j hj => by rw [Nat.zero_add]; exact hc _ _ (singles_get f n j hj)⟩
theorem owned_grown {w w1 : World} {row : Option Nat} {base e size n : Nat} {v : Value} {xs : List Value} (h : w.ownsRow base e size v n xs) (hg : w.grownBy w1 row) (hr : ∀ k, row = some k → v.ownBlock ≠ some k) : w1.ownsRow base e size v n xs := by
  obtain ⟨h1, h2⟩ := h
  refine ⟨h1, ?_⟩
  rcases h2 with h2 | ⟨g, cap, cur, rfl, h3, h4, h5⟩
  · exact Or.inl h2
  · exact Or.inr ⟨g, cap, cur, rfl, h3, (hg.block g (Array.getElem?_eq_some_iff.1 h4).1 (fun e => hr g e.symm rfl)).trans h4, h5⟩

end Go.Proofs.YteodefmpkljedaaDoor
