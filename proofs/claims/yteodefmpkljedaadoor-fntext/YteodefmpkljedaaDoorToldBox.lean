/-
  What is told, in a box.
-/
import Derived.Test.YteodefmpkljedaaDoorSpecRead5
namespace Go.Proofs.YteodefmpkljedaaDoor
open Go.RowKit Go.Sort Go.Shelf
set_option linter.unusedVariables false
set_option linter.unusedSimpArgs false

structure TBox (w : World) (b : Nat) (T : Tld) (ap az : Option Addr) (cp cz : Nat) : Prop where
  c0 : w.cell? ⟨b, 0, none⟩ = some (.int .i64 T.code)
  c1 : w.cell? ⟨b, 1, none⟩ = some (.int .i64 T.at_)
  c2 : w.cell? ⟨b, 2, none⟩ = some (.slice ap T.P.np cp)
  c3 : w.cell? ⟨b, 3, none⟩ = some (.slice az T.P.nz cz)
  c4 : w.cell? ⟨b, 4, none⟩ = some (.int .i64 T.P.train)
  c5 : w.cell? ⟨b, 5, none⟩ = some (.int .i64 T.P.fin)
  c6 : w.cell? ⟨b, 6, none⟩ = some (.int .i64 T.P.delay)
theorem TBox.lt {w : World} {b : Nat} {T : Tld} {ap az : Option Addr} {cp cz : Nat} (h : TBox w b T ap az cp cz) : b < w.heap.size := World.block_lt_of_cell? _ _ h.c0
theorem TBox.of_block {w w1 : World} {b : Nat} {T : Tld} {ap az : Option Addr} {cp cz : Nat} (h : TBox w b T ap az cp cz) (e : w1.heap[b]? = w.heap[b]?) : TBox w1 b T ap az cp cz :=
  ⟨(World.cell?_of_block (a := ⟨b, 0, none⟩) e).trans h.c0, (World.cell?_of_block (a := ⟨b, 1, none⟩) e).trans h.c1, (World.cell?_of_block (a := ⟨b, 2, none⟩) e).trans h.c2, (World.cell?_of_block (a := ⟨b, 3, none⟩) e).trans h.c3, (World.cell?_of_block (a := ⟨b, 4, none⟩) e).trans h.c4, (World.cell?_of_block (a := ⟨b, 5, none⟩) e).trans h.c5, (World.cell?_of_block (a := ⟨b, 6, none⟩) e).trans h.c6⟩
theorem TBox.below {w w1 : World} {B b : Nat} {T : Tld} {ap az : Option Addr} {cp cz : Nat} (h : TBox w b T ap az cp cz) (hb : Below B w w1) (hB : b < B) : TBox w1 b T ap az cp cz := h.of_block (hb.block b hB)
theorem TBox.grown {w w1 : World} {row : Option Nat} {b : Nat} {T : Tld} {ap az : Option Addr} {cp cz : Nat} (h : TBox w b T ap az cp cz) (hg : w.grownBy w1 row) (hr : some b ≠ row) : TBox w1 b T ap az cp cz := h.of_block (hg.block b h.lt hr)
theorem told_few (t : List UInt8) : (told t).P.np ≤ 60 ∧ (told t).P.nz ≤ 60 := by
  unfold told
  split
  · exact ⟨Nat.zero_le _, Nat.zero_le _⟩
  · generalize rtext t = R
    rcases R with n | ⟨g, m⟩
    · exact ⟨Nat.zero_le _, Nat.zero_le _⟩
    · by_cases c : (profOf g).code = 0
      · rw [toldOf_ok m c]
        have h := (Prof.code_zero.1 c).counts
        exact ⟨h.2.1, h.2.2⟩
      · rw [toldOf_wrong m c]
        exact ⟨Nat.zero_le _, Nat.zero_le _⟩
theorem told_lies {T : Tld} {base : Nat} {w : World} {ap az : Option Addr} {cp cz : Nat} (h : T.Owned base w (.slice ap T.P.np cp) (.slice az T.P.nz cz)) (hn : T.P.np ≤ 60 ∧ T.P.nz ≤ 60) : T.P.Lies w (.agg #[.slice ap T.P.np cp, .slice az T.P.nz cz, .int .i64 T.P.train, .int .i64 T.P.fin, .int .i64 T.P.delay]) := by
  obtain ⟨a, c, e, k, _⟩ := owned_shape h.1
  obtain ⟨rfl, rfl⟩ : ap = a ∧ cp = c := by simpa using e
  exact ⟨ap, cp, az, cz, rfl, ⟨by omega, k⟩, by omega, owned_row2 h.1, owned_row3 h.2⟩

end Go.Proofs.YteodefmpkljedaaDoor
