/-
  The laws' own helpers: sizes, copies, comparisons of profiles.
-/
import Derived.Test.YteodefmpkljedaaDoorProg
import Derived.Test.YteodefmpkljedaaDoorProf
import Derived.Test.YteodefmpkljedaaDoorSpecSlow
import Derived.KernelRfl
import Derived.Deep.OwnRows
namespace Go.Proofs.YteodefmpkljedaaDoor
open Go.RowKit
set_option linter.unusedVariables false

theorem Tryd.infoPiece : (Tryd.prog.info? 46).map (fun i => (i.zero, i.size, i.bytes)) = some (some (.agg #[.int .i64 0, .int .i64 0]), 2, 16) := by kernel_rfl
theorem Tryd.infoZone : (Tryd.prog.info? 49).map (fun i => (i.zero, i.size, i.bytes)) = some (some (.agg #[.int .i64 0, .int .i64 0, .int .i64 0]), 3, 24) := by kernel_rfl

/-- Pairs, triples in a row of cells. -/
def col2 (L B : Nat → Int) (i : Nat) : Value := .int .i64 (if i % 2 = 0 then L (i / 2) else B (i / 2))
def col3 (F T S : Nat → Int) (i : Nat) : Value := .int .i64 (if i % 3 = 0 then F (i / 3) else if i % 3 = 1 then T (i / 3) else S (i / 3))
theorem col2_0 (L B : Nat → Int) (j : Nat) : col2 L B (j * 2) = .int .i64 (L j) := by unfold col2; rw [if_pos (by omega), show j * 2 / 2 = j by omega]
theorem col2_1 (L B : Nat → Int) (j : Nat) : col2 L B (j * 2 + 1) = .int .i64 (B j) := by unfold col2; rw [if_neg (by omega), show (j * 2 + 1) / 2 = j by omega]
theorem col3_0 (F T S : Nat → Int) (j : Nat) : col3 F T S (j * 3) = .int .i64 (F j) := by unfold col3; rw [if_pos (by omega), show j * 3 / 3 = j by omega]
theorem col3_1 (F T S : Nat → Int) (j : Nat) : col3 F T S (j * 3 + 1) = .int .i64 (T j) := by unfold col3; rw [if_neg (by omega), if_pos (by omega), show (j * 3 + 1) / 3 = j by omega]
theorem col3_2 (F T S : Nat → Int) (j : Nat) : col3 F T S (j * 3 + 2) = .int .i64 (S j) := by unfold col3; rw [if_neg (by omega), if_neg (by omega), show (j * 3 + 2) / 3 = j by omega]
theorem row2_of {w : World} {g t n : Nat} {L B : Nat → Int} (h : w.rowIs g t (n * 2) (col2 L B)) : Row2 w (some ⟨g, 0, none⟩) n L B :=
  Or.inr ⟨g, 0, rfl, h.lt, fun j hj => ⟨by rw [Nat.zero_add, h.cell (by omega), col2_0], by rw [Nat.zero_add, h.cell (by omega), col2_1]⟩⟩
theorem row3_of {w : World} {g t n : Nat} {F T S : Nat → Int} (h : w.rowIs g t (n * 3) (col3 F T S)) : Row3 w (some ⟨g, 0, none⟩) n F T S :=
  Or.inr ⟨g, 0, rfl, h.lt, fun j hj => ⟨by rw [Nat.zero_add, h.cell (by omega), col3_0], by rw [Nat.zero_add, h.cell (by omega), col3_1], by rw [Nat.zero_add, h.cell (by omega), col3_2]⟩⟩
theorem rowIs_below {w w1 : World} {g t n : Nat} {f : Nat → Value} (h : w.rowIs g t n f) (hb : Below w.heap.size w w1) : w1.rowIs g t n f := h.of_block (hb.block g h.lt)
theorem rowIs_zeros (w : World) (z : Array Value) (n t : Nat) : (w.alloc (.cells (madeCells z n) t)).rowIs w.heap.size t n (fun i => z[i % z.size]!) := by
  have := World.rowIs_alloc w (madeCells z n) t (fun i => z[i % z.size]!) (fun i hi => by rw [size_madeCells] at hi; simp [madeCells, hi])
  rwa [size_madeCells] at this

theorem set2 {w : World} {g t n k : Nat} {f : Nat → Value} {L B : Nat → Int} (h : w.rowIs g t (n * 2) f) (hf : ∀ j, j < k * 2 → f j = col2 L B j) :
    ∃ f', ((w.setCell ⟨g, k * 2, none⟩ (.int .i64 (L k))).setCell ⟨g, k * 2 + 1, none⟩ (.int .i64 (B k))).rowIs g t (n * 2) f' ∧ ∀ j, j < (k + 1) * 2 → f' j = col2 L B j := by
  refine ⟨_, (h.set _ _).set _ _, fun j hj => ?_⟩
  show (if j = k * 2 + 1 then _ else if j = k * 2 then _ else f j) = _
  by_cases c1 : j = k * 2 + 1
  · rw [if_pos c1, c1, col2_1]
  · by_cases c0 : j = k * 2
    · rw [if_neg c1, if_pos c0, c0, col2_0]
    · rw [if_neg c1, if_neg c0]; exact hf j (by omega)
theorem set3 {w : World} {g t n k : Nat} {f : Nat → Value} {F T S : Nat → Int} (h : w.rowIs g t (n * 3) f) (hf : ∀ j, j < k * 3 → f j = col3 F T S j) :
    ∃ f', (((w.setCell ⟨g, k * 3, none⟩ (.int .i64 (F k))).setCell ⟨g, k * 3 + 1, none⟩ (.int .i64 (T k))).setCell ⟨g, k * 3 + 2, none⟩ (.int .i64 (S k))).rowIs g t (n * 3) f' ∧ ∀ j, j < (k + 1) * 3 → f' j = col3 F T S j := by
  refine ⟨_, ((h.set _ _).set _ _).set _ _, fun j hj => ?_⟩
  show (if j = k * 3 + 2 then _ else if j = k * 3 + 1 then _ else if j = k * 3 then _ else f j) = _
  by_cases c2 : j = k * 3 + 2
  · rw [if_pos c2, c2, col3_2]
  · by_cases c1 : j = k * 3 + 1
    · rw [if_neg c2, if_pos c1, c1, col3_1]
    · by_cases c0 : j = k * 3
      · rw [if_neg c2, if_neg c1, if_pos c0, c0, col3_0]
      · rw [if_neg c2, if_neg c1, if_neg c0]; exact hf j (by omega)

/-- A copy: it lies in new memory, each row in a block of its own. -/
def Prof.Copied (P : Prof) (base : Nat) (w : World) (v : Value) : Prop :=
  ∃ g h, v = .agg #[.slice (some ⟨g, 0, none⟩) P.np P.np, .slice (some ⟨h, 0, none⟩) P.nz P.nz, .int .i64 P.train, .int .i64 P.fin, .int .i64 P.delay] ∧ base ≤ g ∧ g < h ∧ P.np ≤ 1048576 ∧ P.nz ≤ 1048576 ∧ w.rowIs g 46 (P.np * 2) (col2 P.L P.B) ∧ w.rowIs h 49 (P.nz * 3) (col3 P.F P.T P.S)
theorem Prof.Copied.lies {P : Prof} {base : Nat} {w : World} {v : Value} (h : P.Copied base w v) : P.Lies w v := by
  obtain ⟨g, h, rfl, _, _, h1, h2, h3, h4⟩ := h
  exact ⟨_, _, _, _, rfl, by omega, by omega, row2_of h3, row3_of h4⟩
theorem Prof.Copied.below {P : Prof} {base : Nat} {w w1 : World} {v : Value} (h : P.Copied base w v) (hb : Below w.heap.size w w1) : P.Copied base w1 v := by
  obtain ⟨g, h, rfl, h0, h0', h1, h2, h3, h4⟩ := h
  exact ⟨g, h, rfl, h0, h0', h1, h2, rowIs_below h3 hb, rowIs_below h4 hb⟩

end Go.Proofs.YteodefmpkljedaaDoor
