/-
  The program's BrakeAt.
-/
import Derived.Test.YteodefmpkljedaaImplAt
namespace Go.Proofs.Yteodefmpkljedaa
open Go.RowKit
attribute [local go_sem ↓] Go.wp_at_zero Go.wp_at_succ
set_option linter.unusedVariables false

/-- The piece in which a place is. -/
def Prof.piece (P : Prof) (x : Int) : Nat := if P.find x < P.np - 1 then P.find x else P.np - 1
theorem Prof.piece_lt {P : Prof} (h1 : 1 ≤ P.np) (x : Int) : P.piece x < P.np := by unfold Prof.piece; split <;> omega
theorem Prof.rate_piece {P : Prof} (h : P.Up) (h1 : 1 ≤ P.np) (x : Int) : P.rate x = P.B (P.piece x) := by
  unfold Prof.piece
  split
  · next c => exact Prof.rate_low h h1 c
  · next c => exact Prof.rate_high h h1 (by omega)

set_option maxHeartbeats 2000000 in
theorem pieceAt_any (P : Prof) (v : Value) (x : Int) (w : World) (hl : P.WayIs w v) (hok : P.Up) (h1 : 1 ≤ P.np) :
    Calls Try.prog 117 #[v, .int .i64 x] w fun e w' => e = .returned (.int .i64 (P.piece x)) ∧ Below w.heap.size w w' := by
  obtain ⟨ap, cp, az, cz, g, rfl, hn, hn', hr2, hr3, hrow⟩ := hl
  have HL : Hid (P.Up) := hok
  have hsz := hok.1
  have hfl := P.find_le hok x
  have hmin : (if (P.np : Int) - 1 < (P.find x : Int) then (P.np : Int) - 1 else (P.find x : Int)) = (P.piece x : Int) := by unfold Prof.piece; split <;> split <;> omega
  have HM : Hid ((if (P.np : Int) - 1 < (P.find x : Int) then (P.np : Int) - 1 else (P.find x : Int)) = (P.piece x : Int)) := hmin
  have HROW : Hid (w.rowIs g 3 P.np (endOf P.L)) := hrow
  clear hr2 hr3 hrow hok hmin
  go_enter Try.func117, Try.ntmps117
  go_wp2
  generalize hW : w.alloc _ = W
  have bW : Below w.heap.size w W := by rw [← hW]; exact (Below.refl _ _).alloc (Nat.le_refl _) _
  have sW : W.heap.size = w.heap.size + 1 := by rw [← hW]; simp
  have x5 : W.cell? ⟨w.heap.size, 5, none⟩ = some (.slice (some ⟨g, 0, none⟩) P.np P.np) := by subst hW; go_simp
  clear hW
  go_region_held3 (fun y => y.cell? ⟨w.heap.size, 5, none⟩ = some (.slice (some ⟨g, 0, none⟩) P.np P.np)) (first | go_keep | (rw [hb2.cell (by simp; omega)]; assumption))
      ((go_at_call 128; refine (firstAbove_any P x _ g (rowIs_below HROW.out bW.drew) HL.out).mono ?_; rintro e w2 ⟨rfl, hb2⟩))
  have b2 : Below w.heap.size w w2 := bW.drew.trans (hb2.mono (by simp; omega))
  rw [wrapIn (x := (P.np : Int) - 1) (by omega) (by omega), HM.out]
  clear hb2
  go_wp2
  go_ret
  exact ⟨rfl, b2⟩

set_option maxHeartbeats 2000000 in
theorem brakeAt_any (P : Prof) (v : Value) (x : Int) (w : World) (hl : P.WayIs w v) (hok : P.Up) (h1 : 1 ≤ P.np) :
    Calls Try.prog 107 #[v, .int .i64 x] w fun e w' => e = .returned (.int .i64 (P.rate x)) ∧ Below w.heap.size w w' := by
  have HW : Hid (P.WayIs w v) := hl
  obtain ⟨ap, cp, az, cz, g, rfl, hn, hn', hr2, hr3, hrow⟩ := hl
  have HL : Hid (P.Up) := hok
  have hsz := hok.1
  have hpl := P.piece_lt h1 x
  rcases hr2 with h0 | ⟨b, off, rfl, hb, hc⟩
  · omega
  have HC : Hid (∀ j, j < P.np → w.cell? ⟨b, off + j * 2, none⟩ = some (.int .i64 (P.L j)) ∧ w.cell? ⟨b, off + j * 2 + 1, none⟩ = some (.int .i64 (P.B j))) := hc
  have HE : Hid (P.rate x = P.B (P.piece x)) := Prof.rate_piece hok h1 x
  clear hr3 hrow hc hok
  go_enter Try.func107, Try.ntmps107
  go_wp2
  generalize hW : w.alloc _ = W
  have bW : Below w.heap.size w W := by rw [← hW]; exact (Below.refl _ _).alloc (Nat.le_refl _) _
  have sW : W.heap.size = w.heap.size + 1 := by rw [← hW]; simp
  have x0 : W.cell? ⟨w.heap.size, 0, none⟩ = some (.slice (some ⟨b, off, none⟩) P.np cp) := by subst hW; go_simp
  have x1 : W.cell? ⟨w.heap.size, 1, none⟩ = some (.slice az P.nz cz) := by subst hW; go_simp
  have x2 : W.cell? ⟨w.heap.size, 2, none⟩ = some (.int .i64 P.train) := by subst hW; go_simp
  have x3 : W.cell? ⟨w.heap.size, 3, none⟩ = some (.int .i64 P.fin) := by subst hW; go_simp
  have x4 : W.cell? ⟨w.heap.size, 4, none⟩ = some (.int .i64 P.delay) := by subst hW; go_simp
  have x5 : W.cell? ⟨w.heap.size, 5, none⟩ = some (.slice (some ⟨g, 0, none⟩) P.np P.np) := by subst hW; go_simp
  have x6 : W.cell? ⟨b, off + P.piece x * 2 + 1, none⟩ = some (.int .i64 (P.B (P.piece x))) := by rw [bW.cell hb]; exact (HC.out _ hpl).2
  clear hW
  go_region_held3 (fun y => y.cell? ⟨b, off + P.piece x * 2 + 1, none⟩ = some (.int .i64 (P.B (P.piece x))) ∧ y.cell? ⟨w.heap.size, 0, none⟩ = some (.slice (some ⟨b, off, none⟩) P.np cp) ∧ y.cell? ⟨w.heap.size, 1, none⟩ = some (.slice az P.nz cz) ∧ y.cell? ⟨w.heap.size, 2, none⟩ = some (.int .i64 P.train) ∧ y.cell? ⟨w.heap.size, 3, none⟩ = some (.int .i64 P.fin) ∧ y.cell? ⟨w.heap.size, 4, none⟩ = some (.int .i64 P.delay) ∧ y.cell? ⟨w.heap.size, 5, none⟩ = some (.slice (some ⟨g, 0, none⟩) P.np P.np)) (first | go_keep | (go_split_ands; refine ⟨?_, ?_, ?_, ?_, ?_, ?_, ?_⟩ <;> (rw [hb2.cell (by simp; omega)]; assumption)))
      ((go_at_call 117; refine (pieceAt_any P _ x _ (HW.out.below bW.drew) HL.out h1).mono ?_; rintro e w2 ⟨rfl, hb2⟩))
  have b2 : Below w.heap.size w w2 := bW.drew.trans (hb2.mono (by simp; omega))
  clear hb2
  go_wp2
  go_ret
  exact ⟨ret_int HE.out.symm, b2⟩

end Go.Proofs.Yteodefmpkljedaa
