/-
  The laws' marks, on: found again; whole profiles and answers; comparisons of answers.
-/
import Derived.Test.YteodefmpkljedacDoorLawMark
namespace Go.Proofs.YteodefmpkljedacDoor
open Go.RowKit Go.Sort
set_option linter.unusedVariables false
set_option linter.unusedSimpArgs false

set_option maxHeartbeats 2000000 in
theorem markProfile_any (P : Prof) (v : Value) (base : Nat) (q : Int) (w : World) (hc : P.Copied base w v) (hq : 0 ≤ q) (hq' : q ≤ 1000) :
    Calls Tryd.prog 16 #[v, .int .i64 q] w fun e w' => ∃ (g h : Nat) (m : Int) (w1 : World), e = .returned (.int .i64 m) ∧ (0 ≤ m ∧ m ≤ 100000000) ∧ v = .agg #[.slice (some ⟨g, 0, none⟩) P.np P.np, .slice (some ⟨h, 0, none⟩) P.nz P.nz, .int .i64 P.train, .int .i64 P.fin, .int .i64 P.delay] ∧ base ≤ g ∧ base ≤ h ∧ g < w.heap.size ∧ h < w.heap.size ∧ w.grownBy w1 (some g) ∧ w1.grownBy w' (some h) := by
  obtain ⟨g, h, rfl, hb, hgh, hp, hz, hrow1, hrow2⟩ := hc
  have gl := hrow1.lt
  have hl := hrow2.lt
  have M1 : Hid (MRow w (some ⟨g, 0, none⟩) P.np 2 g 40 (P.np * 2)) := Or.inr ⟨rfl, Nat.le_refl _, _, hrow1⟩
  have M2 : Hid (MRow w (some ⟨h, 0, none⟩) P.nz 3 h 42 (P.nz * 3)) := Or.inr ⟨rfl, Nat.le_refl _, _, hrow2⟩
  clear hrow1 hrow2
  go_enter Tryd.func16, Tryd.ntmps16
  go_wp2_with fail
  have g0 : w.grownBy (w.alloc (.cells #[.slice (some ⟨g, 0, none⟩) P.np P.np, .slice (some ⟨h, 0, none⟩) P.nz P.nz, .int .i64 P.train, .int .i64 P.fin, .int .i64 P.delay] 25)) none := World.grownBy_alloc _ _ _
  have x1 : (w.alloc (.cells #[.slice (some ⟨g, 0, none⟩) P.np P.np, .slice (some ⟨h, 0, none⟩) P.nz P.nz, .int .i64 P.train, .int .i64 P.fin, .int .i64 P.delay] 25)).cell? ⟨w.heap.size, 1, none⟩ = some (.slice (some ⟨h, 0, none⟩) P.nz P.nz) := by go_simp
  refine (markPieceS_any _ _ _ g 40 (P.np * 2) q _ (M1.out.grown g0 (by simp)) (by omega) hq (by omega)).mono ?_
  rintro e w1 ⟨rfl, _, hg1⟩
  have y1 : w1.cell? ⟨w.heap.size, 1, none⟩ = some (.slice (some ⟨h, 0, none⟩) P.nz P.nz) := hg1.cell x1 (fun e => by have h2 : w.heap.size = g := Option.some.inj e; omega)
  clear x1
  go_wp2_with fail
  refine (markZoneS_any _ _ _ h 42 (P.nz * 3) _ _ ((M2.out.grown g0 (by simp)).grown hg1 (fun e => by have h2 := Option.some.inj e; omega)) (by omega) (by omega) (by omega)).mono ?_
  rintro e w2 ⟨rfl, _, hg2⟩
  have hg3 : w.grownBy w1 (some g) := ⟨hg1.os.trans g0.os, hg1.tape.trans g0.tape, hg1.output.trans g0.output, Nat.le_trans g0.size hg1.size, fun i hi hne => (hg1.block i (Nat.lt_of_lt_of_le hi g0.size) hne).trans (g0.block i hi (by simp))⟩
  go_wp2
  go_ret
  exact ⟨g, h, _, w1, rfl, ⟨by omega, by omega⟩, rfl, hb, by omega, gl, hl, hg3, hg2⟩

end Go.Proofs.YteodefmpkljedacDoor
