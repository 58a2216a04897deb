/-
  Rows that a call has made by append: their cells, read as pairs, triples, single numbers.
  Worlds that grow, rows that are owned, the five cells of a profile's variable.
-/
import Derived.Test.YteodefmpkljedaaDoorProf
import Derived.WalkKit
import Derived.Test.YteodefmpkljedaaDoorProg
import Derived.Test.YteodefmpkljedaaDoorSpecSlow
import Derived.KernelRfl
import Derived.BigQuiet
import Derived.Deep.QuietTactic
import Derived.Deep.OwnRows
import Derived.Laws.Bits64b
import Derived.Deep.Heap
import Derived.Deep.RegionLaw
import Derived.Deep.RegionHeld3
import Derived.Shelf.Abstract
import Derived.RangeFuncNested
namespace Go.Proofs.YteodefmpkljedaaDoor
open Go.RowKit
set_option linter.unusedVariables false

/-- The cells of k pairs. -/
def pairs (f g : Nat → Int) : Nat → List Value
  | 0 => []
  | k + 1 => pairs f g k ++ [.int .i64 (f k), .int .i64 (g k)]
theorem pairs_length (f g : Nat → Int) : ∀ k, (pairs f g k).length = k * 2
  | 0 => rfl
  | k + 1 => by simp [pairs, pairs_length f g k]; omega
theorem pairs_get (f g : Nat → Int) : ∀ (k j : Nat), j < k → (pairs f g k)[j * 2]? = some (.int .i64 (f j)) ∧ (pairs f g k)[j * 2 + 1]? = some (.int .i64 (g j))
  | 0, j, h => by omega
  | k + 1, j, h => by
    have hl := pairs_length f g k
    by_cases c : j = k
    · subst c
      constructor
      · rw [pairs, List.getElem?_append_right (by omega), hl]; simp
      · rw [pairs, List.getElem?_append_right (by omega), hl]; simp
    · have ih := pairs_get f g k j (by omega)
      constructor
      · rw [pairs, List.getElem?_append_left (by omega)]; exact ih.1
      · rw [pairs, List.getElem?_append_left (by omega)]; exact ih.2

/-- The cells of k triples. -/
def triples (f g h : Nat → Int) : Nat → List Value
  | 0 => []
  | k + 1 => triples f g h k ++ [.int .i64 (f k), .int .i64 (g k), .int .i64 (h k)]
theorem triples_length (f g h : Nat → Int) : ∀ k, (triples f g h k).length = k * 3
  | 0 => rfl
  | k + 1 => by simp [triples, triples_length f g h k]; omega
theorem triples_get (f g h : Nat → Int) : ∀ (k j : Nat), j < k → (triples f g h k)[j * 3]? = some (.int .i64 (f j)) ∧ (triples f g h k)[j * 3 + 1]? = some (.int .i64 (g j)) ∧ (triples f g h k)[j * 3 + 2]? = some (.int .i64 (h j))
  | 0, j, hj => by omega
  | k + 1, j, hj => by
    have hl := triples_length f g h k
    by_cases c : j = k
    · subst c
      refine ⟨?_, ?_, ?_⟩ <;> (rw [triples, List.getElem?_append_right (by omega), hl]; simp)
    · have ih := triples_get f g h k j (by omega)
      refine ⟨?_, ?_, ?_⟩ <;> rw [triples, List.getElem?_append_left (by omega)]
      · exact ih.1
      · exact ih.2.1
      · exact ih.2.2

/-- The cells of k numbers. -/
def singles (f : Nat → Int) : Nat → List Value
  | 0 => []
  | k + 1 => singles f k ++ [.int .i64 (f k)]
theorem singles_length (f : Nat → Int) : ∀ k, (singles f k).length = k
  | 0 => rfl
  | k + 1 => by simp [singles, singles_length f k]
theorem singles_get (f : Nat → Int) : ∀ (k j : Nat), j < k → (singles f k)[j]? = some (.int .i64 (f j))
  | 0, j, hj => by omega
  | k + 1, j, hj => by
    have hl := singles_length f k
    by_cases c : j = k
    · subst c
      rw [singles, List.getElem?_append_right (by omega), hl]; simp
    · rw [singles, List.getElem?_append_left (by omega)]
      exact singles_get f k j (by omega)
theorem pairs_congr {f g f' g' : Nat → Int} : ∀ k, (∀ j, j < k → f j = f' j ∧ g j = g' j) → pairs f g k = pairs f' g' k
  | 0, _ => rfl
  | k + 1, h => by rw [pairs, pairs, pairs_congr k (fun j hj => h j (by omega)), (h k (by omega)).1, (h k (by omega)).2]

theorem ownsRow_below {w w1 : World} {base e size n : Nat} {v : Value} {xs : List Value} (h : w.ownsRow base e size v n xs) (hb : Below w.heap.size w w1) : w1.ownsRow base e size v n xs := by
  obtain ⟨h1, h2⟩ := h
  refine ⟨h1, ?_⟩
  rcases h2 with h2 | ⟨g, cap, cur, h2, h3, h4, h5⟩
  · exact Or.inl h2
  · exact Or.inr ⟨g, cap, cur, h2, h3, (hb.block g (Array.getElem?_eq_some_iff.1 h4).1).trans h4, h5⟩

theorem ownsRow_block {w : World} {base e size n : Nat} {v : Value} {xs : List Value} (h : w.ownsRow base e size v n xs) : ∀ k, v.ownBlock = some k → base ≤ k := by
  intro k hk
  rcases h.2 with ⟨rfl, _⟩ | ⟨g, cap, cur, rfl, h3, _⟩
  · cases hk
  · simp [Value.ownBlock] at hk; omega

/-- A number's row. -/
def Row1 (w : World) (a : Option Addr) (n : Nat) (z : Nat → Int) : Prop :=
  n = 0 ∨ ∃ b off, a = some ⟨b, off, none⟩ ∧ b < w.heap.size ∧ ∀ j, j < n → w.cell? ⟨b, off + j, none⟩ = some (.int .i64 (z j))
theorem Row1.below {w w1 : World} {a : Option Addr} {n : Nat} {z : Nat → Int} (h : Row1 w a n z) (hb : Below w.heap.size w w1) : Row1 w1 a n z := by
  rcases h with h | ⟨b, off, rfl, hlt, hc⟩
  · exact Or.inl h
  · exact Or.inr ⟨b, off, rfl, Nat.lt_of_lt_of_le hlt hb.size, fun j hj => by rw [hb.cell hlt]; exact hc j hj⟩
/-- What is owned can be read. -/
theorem owned_cell {w : World} {base e size n : Nat} {v : Value} {xs : List Value} (h : w.ownsRow base e size v n xs) (hn : 1 ≤ n) : ∃ g cap, v = .slice (some ⟨g, 0, none⟩) n cap ∧ base ≤ g ∧ g < w.heap.size ∧ ∀ (i : Nat) (u : Value), xs[i]? = some u → w.cell? ⟨g, i, none⟩ = some u := by
  obtain ⟨hl, h2⟩ := h
  rcases h2 with ⟨_, h0⟩ | ⟨g, cap, cur, hv, hb, hh, hc, hm, hs, ht⟩
  · omega
  · refine ⟨g, cap, hv, hb, (Array.getElem?_eq_some_iff.1 hh).1, fun i u hi => ?_⟩
    have hlen : i < xs.length := by
      rcases Nat.lt_or_ge i xs.length with c | c
      · exact c
      · rw [List.getElem?_eq_none c] at hi; cases hi
    simp only [World.cell?, hh]
    rw [← ht, List.getElem?_take, if_pos (by omega)] at hi
    simpa using hi
theorem owned_shape {w : World} {base e size n : Nat} {v : Value} {xs : List Value} (h : w.ownsRow base e size v n xs) : ∃ a cap, v = .slice a n cap ∧ n ≤ cap ∧ cap ≤ 9223372036854775807 ∧ (n = 0 ∨ ∃ g, a = some ⟨g, 0, none⟩ ∧ base ≤ g) := by
  rcases h.2 with ⟨rfl, rfl⟩ | ⟨g, cap, cur, hv, hb, hh, hc, hm, hs, ht⟩
  · exact ⟨none, 0, rfl, by omega, by omega, Or.inl rfl⟩
  · exact ⟨_, cap, hv, hc, by unfold maxLen at hm; omega, Or.inr ⟨g, rfl, hb⟩⟩
theorem owned_row2 {w : World} {base e n : Nat} {a : Option Addr} {cap : Nat} {f g : Nat → Int} (h : w.ownsRow base e 2 (.slice a n cap) n (pairs f g n)) : Row2 w a n f g := by
  rcases Nat.eq_zero_or_pos n with c | c
  · exact Or.inl c
  · obtain ⟨b, cap', hv, _, hlt, hc⟩ := owned_cell h c
    cases hv
    exact Or.inr ⟨b, 0, rfl, hlt, fun j hj => ⟨by rw [Nat.zero_add]; exact hc _ _ (pairs_get f g n j hj).1, by rw [Nat.zero_add]; exact hc _ _ (pairs_get f g n j hj).2⟩⟩
theorem owned_row3 {w : World} {base e n : Nat} {a : Option Addr} {cap : Nat} {f g k : Nat → Int} (h : w.ownsRow base e 3 (.slice a n cap) n (triples f g k n)) : Row3 w a n f g k := by
  rcases Nat.eq_zero_or_pos n with c | c
  · exact Or.inl c
  · obtain ⟨b, cap', hv, _, hlt, hc⟩ := owned_cell h c
    cases hv
    exact Or.inr ⟨b, 0, rfl, hlt, fun j hj => ⟨by rw [Nat.zero_add]; exact hc _ _ (triples_get f g k n j hj).1, by rw [Nat.zero_add]; exact hc _ _ (triples_get f g k n j hj).2.1, by rw [Nat.zero_add]; exact hc _ _ (triples_get f g k n j hj).2.2⟩⟩
theorem owned_row1 {w : World} {base e n : Nat} {a : Option Addr} {cap : Nat} {f : Nat → Int} (h : w.ownsRow base e 1 (.slice a n cap) n (singles f n)) : Row1 w a n f := by
  rcases Nat.eq_zero_or_pos n with c | c
  · exact Or.inl c
  · obtain ⟨b, cap', hv, _, hlt, hc⟩ := owned_cell h c
    cases hv
    exact Or.inr ⟨b, 0, rfl, hlt, fun j hj => by rw [Nat.zero_add]; exact hc _ _ (singles_get f n j hj)⟩
theorem owned_grown {w w1 : World} {row : Option Nat} {base e size n : Nat} {v : Value} {xs : List Value} (h : w.ownsRow base e size v n xs) (hg : w.grownBy w1 row) (hr : ∀ k, row = some k → v.ownBlock ≠ some k) : w1.ownsRow base e size v n xs := by
  obtain ⟨h1, h2⟩ := h
  refine ⟨h1, ?_⟩
  rcases h2 with h2 | ⟨g, cap, cur, rfl, h3, h4, h5⟩
  · exact Or.inl h2
  · exact Or.inr ⟨g, cap, cur, rfl, h3, (hg.block g (Array.getElem?_eq_some_iff.1 h4).1 (fun e => hr g e.symm rfl)).trans h4, h5⟩

end Go.Proofs.YteodefmpkljedaaDoor

namespace Go.Proofs.YteodefmpkljedaaDoor
open Go.RowKit
set_option linter.unusedVariables false
set_option linter.unusedSimpArgs false

theorem grown_set (w : World) (B i : Nat) (v : Value) : w.grownBy (w.setCell ⟨B, i, none⟩ v) (some B) := by
  refine ⟨rfl, rfl, rfl, by simp, fun k hk hne => ?_⟩
  have hne' : k ≠ B := fun e => hne (by rw [e])
  exact Go.Deep.blk_setCell_other w ⟨B, i, none⟩ v k hne'
theorem grown_tr {a b c : World} {row : Option Nat} (h : a.grownBy b row) (k : b.grownBy c row) : a.grownBy c row :=
  ⟨k.os.trans h.os, k.tape.trans h.tape, k.output.trans h.output, Nat.le_trans h.size k.size, fun i hi hne => (k.block i (Nat.lt_of_lt_of_le hi h.size) hne).trans (h.block i hi hne)⟩
theorem grown_new {a b c : World} {row row' : Option Nat} (h : a.grownBy b row) (k : b.grownBy c row') (hr : ∀ j, row' = some j → a.heap.size ≤ j) : a.grownBy c row :=
  ⟨k.os.trans h.os, k.tape.trans h.tape, k.output.trans h.output, Nat.le_trans h.size k.size, fun i hi hne => (k.block i (Nat.lt_of_lt_of_le hi h.size) (fun e => by have := hr i e.symm; omega)).trans (h.block i hi hne)⟩
theorem grown_drawn (w : World) (n : Nat) (row : Option Nat) : w.grownBy (w.drewN n) row := ⟨rfl, rfl, rfl, Nat.le_refl _, fun _ _ _ => rfl⟩

theorem Tryd.infoPieceD : (Tryd.prog.info? 46).map (fun i => (i.zero, i.size, i.bytes)) = some (some (.agg #[.int .i64 0, .int .i64 0]), 2, 16) := by kernel_rfl
theorem Tryd.infoZoneD : (Tryd.prog.info? 49).map (fun i => (i.zero, i.size, i.bytes)) = some (some (.agg #[.int .i64 0, .int .i64 0, .int .i64 0]), 3, 24) := by kernel_rfl

/-- The five cells of a profile's variable. -/
def p5 (v1 v2 : Value) (t e d : Int) (i : Nat) : Value := if i = 0 then v1 else if i = 1 then v2 else .int .i64 (if i = 2 then t else if i = 3 then e else d)
abbrev nilS : Value := .slice none 0 0
theorem rowIs_grown {w w1 : World} {row : Option Nat} {g t n : Nat} {f : Nat → Value} (h : w.rowIs g t n f) (hg : w.grownBy w1 row) (hr : some g ≠ row) : w1.rowIs g t n f := h.of_block (hg.block g h.lt hr)

theorem step_append_own {P : Program} {ops : Array Oper} {o : Oper} {a : Act} {w : World} {K : Act → World → Prop} {Q : Exit → Act → World → Prop} {E : Prop}
    (hg : o.guard = none) (s x : Operand) (t : TypeId) (hop : o.op = Op.call { callee := Callee.builtin Builtin.append, args := #[s, x], argTypes := #[t, t] })
    (base : Nat) (e : TypeId) (i : TypeInfo) (z : Value) (size bytes : Nat) (h1 : P.underlying t = some (.slice e)) (h2 : P.info? e = some i) (h3 : i.zero = some z) (h4 : i.size = size) (h5 : i.bytes = bytes) (h6 : z.cells.size = size) (h7 : 0 < size)
    (v : Value) (n : Nat) (xs : List Value) (hs : a.eval s = v) (hown : w.ownsRow base e size v n xs)
    (ad : Addr) (m c : Nat) (news : List Value) (hx : a.eval x = .slice (some ad) m c) (hn : news.length = m * size) (hc : ∀ j u, news[j]? = some u → w.cell? (ad.add j) = some u) (h1c : ∀ u ∈ news, u.oneCell' = true)
    (b1 : n + m ≤ maxLen) (b2 : (n + m) * bytes ≤ 140737488355328) (hb : base ≤ w.heap.size)
    (hK : ∀ v' w', w'.ownsRow base e size v' (n + m) (xs ++ news) → w.grownBy w' v.ownBlock → K (a.put o.dst v') w') :
    if Region.wanted o (yielded ops a.tmps) = true then Oper.wp P o a w K Q else E := by
  have hw : Region.wanted o (yielded ops a.tmps) = true := by simp [Region.wanted, hg]
  rw [if_pos hw]
  obtain ⟨v', w', hrun, r1, r2, _⟩ := run_append_own (P := P) w base t o.type e i z size bytes h1 h2 h3 h4 h5 h6 h7 v n xs hown ad m c news hn hc h1c b1 b2 hb
  unfold Oper.wp
  simp [execOp, hop, resolve, invoke, builtin, hs, hx, hrun, Result.andThen]
  exact hK v' w' r1 r2
theorem step_call2 {P : Program} {ops : Array Oper} {o : Oper} {a : Act} {w : World} {K : Act → World → Prop} {Q : Exit → Act → World → Prop} {E : Prop}
    (hg : o.guard = none) (f : Nat) (s x : Operand) (ts : Array TypeId) (hop : o.op = Op.call { callee := Callee.value (Operand.func f), args := #[s, x], argTypes := ts })
    (u1 u2 : Value) (hs : a.eval s = u1) (hx : a.eval x = u2) (eg : ∀ args w, (callFunc f args).run P w = .ok (.enter f args) w) {R : Ending → World → Prop} (hc : Calls P f #[u1, u2] w R)
    (hK : ∀ e w', R e w' → ∃ v, e = .returned v ∧ K (a.put o.dst v) w') :
    if Region.wanted o (yielded ops a.tmps) = true then Oper.wp P o a w K Q else E := by
  have hw : Region.wanted o (yielded ops a.tmps) = true := by simp [Region.wanted, hg]
  rw [if_pos hw]
  have hrun : (execOp a.eval o).run P w = .ok (.enter f #[u1, u2]) w := by
    have hf : a.eval (Operand.func f) = .func (.func f) #[] #[] := rfl
    simp [execOp, hop, resolve, invoke, hs, hx, hf, eg, Result.andThen, Deferred.ofValue]
  unfold Oper.wp
  rw [hrun]
  refine Calls.mono hc fun e w' h => ?_
  obtain ⟨v, rfl, hk⟩ := hK e w' h
  exact hk
theorem grown_one (w : World) (row : Option Nat) : w.grownBy w.drew row := ⟨rfl, rfl, rfl, Nat.le_refl _, fun _ _ _ => rfl⟩
theorem alloc_add3 (w : World) (x y z : Value) (t : TypeId) : ∀ j u, [x, y, z][j]? = some u → (w.alloc (.cells #[x, y, z] t)).cell? ((⟨w.heap.size, 0, none⟩ : Addr).add j) = some u := by
  intro j u hj
  match j, hj with
  | 0, hj => simp at hj; subst hj; simp [Addr.add]
  | 1, hj => simp at hj; subst hj; simp [Addr.add]
  | 2, hj => simp at hj; subst hj; simp [Addr.add]
theorem ownsRow_base {w : World} {base base' e size n : Nat} {v : Value} {xs : List Value} (h : w.ownsRow base e size v n xs) (hb : base' ≤ base) : w.ownsRow base' e size v n xs := by
  obtain ⟨h1, h2⟩ := h
  refine ⟨h1, ?_⟩
  rcases h2 with h2 | ⟨g, cap, cur, h2, h3, h4⟩
  · exact Or.inl h2
  · exact Or.inr ⟨g, cap, cur, h2, by omega, h4⟩
theorem ownBlock_lt {w : World} {base e size n : Nat} {v : Value} {xs : List Value} (h : w.ownsRow base e size v n xs) : ∀ k, v.ownBlock = some k → k < w.heap.size := by
  intro k hk
  rcases h.2 with ⟨rfl, _⟩ | ⟨g, cap, cur, rfl, h3, h4, _⟩
  · cases hk
  · simp [Value.ownBlock] at hk
    have := (Array.getElem?_eq_some_iff.1 h4).1
    omega

theorem p5_cases {P : Nat → Prop} (h0 : P 0) (h1 : P 1) (h2 : P 2) (h3 : P 3) (h4 : P 4) : ∀ j, j < 5 → P j := fun j hj => match j, hj with
  | 0, _ => h0
  | 1, _ => h1
  | 2, _ => h2
  | 3, _ => h3
  | 4, _ => h4

end Go.Proofs.YteodefmpkljedaaDoor
