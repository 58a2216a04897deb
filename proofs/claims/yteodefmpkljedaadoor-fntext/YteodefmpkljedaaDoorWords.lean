/-
  The program's table of words, as it is laid.
-/
import Derived.Test.YteodefmpkljedaaDoorTextRead
import Derived.Test.YteodefmpkljedaaDoorGrow
namespace Go.Proofs.YteodefmpkljedaaDoor
open Go.RowKit Go.Sort Go.Shelf
set_option linter.unusedVariables false

/-- The table of words, as it is laid. -/
def WordsAt (w : World) : Prop := 0 < w.heap.size ∧ 0 < w.heap.size ∧ ∀ id : Nat, id < 8 → w.cell? ⟨0, id, none⟩ = some (.string ⟨(wrd id).toArray⟩)
theorem WordsAt.grown {w w1 : World} {row : Option Nat} (h : WordsAt w) (hg : w.grownBy w1 row) (hr : ∀ k, row = some k → 0 < k) : WordsAt w1 := by
  obtain ⟨h0, h1, h2⟩ := h
  refine ⟨Nat.lt_of_lt_of_le h0 hg.size, Nat.lt_of_lt_of_le h1 hg.size, fun id hid => ?_⟩
  exact hg.cell (h2 id hid) (fun e => by have := hr _ e.symm; simp at this)
theorem WordsAt.below {w w1 : World} (h : WordsAt w) (hb : Below w.heap.size w w1) : WordsAt w1 := by
  obtain ⟨h0, h1, h2⟩ := h
  exact ⟨Nat.lt_of_lt_of_le h0 hb.size, Nat.lt_of_lt_of_le h1 hb.size, fun id hid => (hb.cell (p := ⟨0, id, none⟩) h1).trans (h2 id hid)⟩

end Go.Proofs.YteodefmpkljedaaDoor
