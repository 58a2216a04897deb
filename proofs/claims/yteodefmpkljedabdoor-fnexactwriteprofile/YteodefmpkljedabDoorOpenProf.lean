/-
  A profile that comes in as an argument: its reading, opened.
-/
import Derived.Test.YteodefmpkljedabDoorProg
import Derived.Test.YteodefmpkljedabDoorProf
import Derived.ProofKit
import Derived.Deep.Slices
namespace Go.Proofs.YteodefmpkljedabDoor
open Go.RowKit Go.ChangeShapes Go.WideShapes Go.Deep
set_option linter.unusedVariables false

section
variable {H : Type} {enc : TypeId × Value → H} {P : Program} {w : World} {base : Nat} {spare : Nat → Bool} {held : Bool}

theorem cell_spot {a : Addr} {v : Value} (h : w.cell? (a.add 0) = some v) : a = ⟨a.block, a.off, none⟩ := by
  obtain ⟨b, off, spot⟩ := a
  have hspot : spot = none := by simpa [Addr.add] using World.cell?_spot h
  subst hspot
  rfl

theorem open_row2 {t e : TypeId} {f0 f1 : Field} {fuel : Nat} {v : Value} {x : DataW H × List MemPlace} (ht : P.underlying t = some (.slice e)) (he : P.underlying e = some (.struct #[f0, f1])) (ce : P.cellsOf e = 2)
    (o0 : f0.offset = 0) (o1 : f1.offset = 1) (c0 : P.cellsOf f0.type = 1) (c1 : P.cellsOf f1.type = 1) (i0 : P.underlying f0.type = some (.int .i64)) (i1 : P.underlying f1.type = some (.int .i64))
    (h : DataW.trod enc P w base spare held fuel t [v] = some x) : ∃ a n c L B, v = .slice a n c ∧ (n ≤ 9223372036854775807 ∧ n ≤ c) ∧ Row2 w a n L B := by
  rcases open_slice ht h with ⟨h0, _⟩ | ⟨a, len, cap, m, n, D, Pl, hcs, hb, hl, hm, hmm, _, hx⟩
  · simp at h0
    exact ⟨none, 0, 0, fun _ => 0, fun _ => 0, h0, by omega, Or.inl rfl⟩
  · simp at hcs
    have hlm : len ≤ m := by rw [hmm]; split <;> omega
    have each : ∀ i, i < len → ∃ x y : Int, w.cell? (a.add (i * 2)) = some (.int .i64 x) ∧ w.cell? (a.add (i * 2 + 1)) = some (.int .i64 y) := by
      intro i hi
      obtain ⟨cs', h1, h2⟩ := hx i (by omega)
      rw [ce] at h1
      obtain ⟨_, hlen, hcell⟩ := World.cells?_some h1
      obtain ⟨xs, k, hk, hxy, _, hxl, hf⟩ := DataW.trod_struct he h2
      match xs, hxl, cs', hlen with
      | [y0, y1], _, [v0, v1], _ =>
        have g0 := hf 0 f0 rfl
        have g1 := hf 1 f1 rfl
        simp [o0, o1, c0, c1] at g0 g1
        obtain ⟨q0, e0, _, _⟩ := DataW.trod_int i0 g0
        obtain ⟨q1, e1, _, _⟩ := DataW.trod_int i1 g1
        simp at e0 e1
        have k0 := hcell 0 (by omega)
        have k1 := hcell 1 (by omega)
        rw [add_add] at k0 k1
        exact ⟨q0, q1, by simpa [e0] using k0, by simpa [e1] using k1⟩
    refine ⟨some a, len, cap, fun i => intOf ((w.cell? (a.add (i * 2))).getD (.int .i64 0)), fun i => intOf ((w.cell? (a.add (i * 2 + 1))).getD (.int .i64 0)), hcs, by unfold maxLen at hm; omega, ?_⟩
    by_cases hz : len = 0
    · exact Or.inl hz
    · obtain ⟨x0, y0, hx0, _⟩ := each 0 (by omega)
      rw [Nat.zero_mul] at hx0
      have ha := cell_spot hx0
      have hlt : a.block < w.heap.size := by have := World.block_lt_of_cell? _ _ hx0; rw [ha, add_plain] at this; exact this
      refine Or.inr ⟨a.block, a.off, by rw [← ha], hlt, fun j hj => ?_⟩
      obtain ⟨x, y, e1, e2⟩ := each j hj
      dsimp only
      rw [e1, e2]
      rw [ha, add_plain] at e1 e2
      exact ⟨e1, by simpa [Nat.add_assoc, intOf] using e2⟩

theorem open_row3 {t e : TypeId} {f0 f1 f2 : Field} {fuel : Nat} {v : Value} {x : DataW H × List MemPlace} (ht : P.underlying t = some (.slice e)) (he : P.underlying e = some (.struct #[f0, f1, f2])) (ce : P.cellsOf e = 3)
    (o0 : f0.offset = 0) (o1 : f1.offset = 1) (o2 : f2.offset = 2) (c0 : P.cellsOf f0.type = 1) (c1 : P.cellsOf f1.type = 1) (c2 : P.cellsOf f2.type = 1) (i0 : P.underlying f0.type = some (.int .i64)) (i1 : P.underlying f1.type = some (.int .i64)) (i2 : P.underlying f2.type = some (.int .i64))
    (h : DataW.trod enc P w base spare held fuel t [v] = some x) : ∃ a n c F T S, v = .slice a n c ∧ n ≤ 9223372036854775807 ∧ Row3 w a n F T S := by
  rcases open_slice ht h with ⟨h0, _⟩ | ⟨a, len, cap, m, n, D, Pl, hcs, hb, hl, hm, hmm, _, hx⟩
  · simp at h0
    exact ⟨none, 0, 0, fun _ => 0, fun _ => 0, fun _ => 0, h0, by omega, Or.inl rfl⟩
  · simp at hcs
    have hlm : len ≤ m := by rw [hmm]; split <;> omega
    have each : ∀ i, i < len → ∃ x y z : Int, w.cell? (a.add (i * 3)) = some (.int .i64 x) ∧ w.cell? (a.add (i * 3 + 1)) = some (.int .i64 y) ∧ w.cell? (a.add (i * 3 + 2)) = some (.int .i64 z) := by
      intro i hi
      obtain ⟨cs', h1, h2⟩ := hx i (by omega)
      rw [ce] at h1
      obtain ⟨_, hlen, hcell⟩ := World.cells?_some h1
      obtain ⟨xs, k, hk, hxy, _, hxl, hf⟩ := DataW.trod_struct he h2
      match xs, hxl, cs', hlen with
      | [y0, y1, y2], _, [v0, v1, v2], _ =>
        have g0 := hf 0 f0 rfl
        have g1 := hf 1 f1 rfl
        have g2 := hf 2 f2 rfl
        simp [o0, o1, o2, c0, c1, c2] at g0 g1 g2
        obtain ⟨q0, e0, _, _⟩ := DataW.trod_int i0 g0
        obtain ⟨q1, e1, _, _⟩ := DataW.trod_int i1 g1
        obtain ⟨q2, e2, _, _⟩ := DataW.trod_int i2 g2
        simp at e0 e1 e2
        have k0 := hcell 0 (by omega)
        have k1 := hcell 1 (by omega)
        have k2 := hcell 2 (by omega)
        rw [add_add] at k0 k1 k2
        exact ⟨q0, q1, q2, by simpa [e0] using k0, by simpa [e1] using k1, by simpa [e2] using k2⟩
    refine ⟨some a, len, cap, fun i => intOf ((w.cell? (a.add (i * 3))).getD (.int .i64 0)), fun i => intOf ((w.cell? (a.add (i * 3 + 1))).getD (.int .i64 0)), fun i => intOf ((w.cell? (a.add (i * 3 + 2))).getD (.int .i64 0)), hcs, by unfold maxLen at hm; omega, ?_⟩
    by_cases hz : len = 0
    · exact Or.inl hz
    · obtain ⟨x0, y0, z0, hx0, _⟩ := each 0 (by omega)
      rw [Nat.zero_mul] at hx0
      have ha := cell_spot hx0
      have hlt : a.block < w.heap.size := by have := World.block_lt_of_cell? _ _ hx0; rw [ha, add_plain] at this; exact this
      refine Or.inr ⟨a.block, a.off, by rw [← ha], hlt, fun j hj => ?_⟩
      obtain ⟨x, y, z, e1, e2, e3⟩ := each j hj
      dsimp only
      rw [e1, e2, e3]
      rw [ha, add_plain] at e1 e2 e3
      exact ⟨e1, by simpa [Nat.add_assoc, intOf] using e2, by simpa [Nat.add_assoc, intOf] using e3⟩
end

theorem Tryd.cellsLP : Tryd.prog.cellsOf 25 = 5 := by kernel_rfl
theorem Tryd.cellsLPiece : Tryd.prog.cellsOf 51 = 2 := by kernel_rfl
theorem Tryd.cellsLZone : Tryd.prog.cellsOf 53 = 3 := by kernel_rfl
theorem Tryd.cellsInt : Tryd.prog.cellsOf 3 = 1 := by kernel_rfl
theorem Tryd.cellsPS : Tryd.prog.cellsOf 22 = 1 := by kernel_rfl
theorem Tryd.cellsZS : Tryd.prog.cellsOf 23 = 1 := by kernel_rfl

set_option maxRecDepth 100000 in
/-- The argument is a profile in memory. -/
theorem open_profile {H : Type} {enc : TypeId × Value → H} {w : World} {base : Nat} {spare : Nat → Bool} {held : Bool} {r : Reach} {b0 : Nat} {v : Value} {d : DataW H} {p : List MemPlace}
    (hv : Value.okWide Tryd.prog w r b0 25 v) (h : DataW.Trod enc Tryd.prog w base spare held 25 v d p) : ∃ P : Prof, P.Lies w v := by
  obtain ⟨cs, rfl, hsz⟩ := okWide_struct Tryd.underlying25 hv
  rw [Tryd.cellsLP] at hsz
  obtain ⟨fuel, hf⟩ := h
  obtain ⟨xs, k, hk, hxy, _, hxl, hg⟩ := DataW.trod_struct Tryd.underlying25 hf
  obtain ⟨l⟩ := cs
  match l, hsz, xs, hxl with
  | [c0, c1, c2, c3, c4], _, [y0, y1, y2, y3, y4], _ =>
    have g0 := hg 0 _ rfl
    have g1 := hg 1 _ rfl
    have g2 := hg 2 _ rfl
    have g3 := hg 3 _ rfl
    have g4 := hg 4 _ rfl
    simp [Value.cells, Tryd.cellsInt, Tryd.cellsPS, Tryd.cellsZS] at g0 g1 g2 g3 g4
    obtain ⟨ap, np, cp, L, B, rfl, hn, hr2⟩ := open_row2 Tryd.underlying22 Tryd.underlying51 Tryd.cellsLPiece rfl rfl Tryd.cellsInt Tryd.cellsInt Tryd.underlying3 Tryd.underlying3 g0
    obtain ⟨az, nz, cz, F, T, S, rfl, hn', hr3⟩ := open_row3 Tryd.underlying23 Tryd.underlying53 Tryd.cellsLZone rfl rfl rfl Tryd.cellsInt Tryd.cellsInt Tryd.cellsInt Tryd.underlying3 Tryd.underlying3 Tryd.underlying3 g1
    obtain ⟨q2, e2, _, _⟩ := DataW.trod_int Tryd.underlying3 g2
    obtain ⟨q3, e3, _, _⟩ := DataW.trod_int Tryd.underlying3 g3
    obtain ⟨q4, e4, _, _⟩ := DataW.trod_int Tryd.underlying3 g4
    simp at e2 e3 e4
    subst e2 e3 e4
    exact ⟨{ np := np, L := L, B := B, nz := nz, F := F, T := T, S := S, train := q2, fin := q3, delay := q4 }, ap, cp, az, cz, rfl, hn, hn', hr2, hr3⟩

end Go.Proofs.YteodefmpkljedabDoor
