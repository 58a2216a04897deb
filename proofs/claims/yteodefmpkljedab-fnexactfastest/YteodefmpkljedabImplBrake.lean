/-
  The program's BrakeAt.
-/
import Derived.Test.YteodefmpkljedabImplAt
namespace Go.Proofs.Yteodefmpkljedab
open Go.RowKit
attribute [local go_sem ↓] Go.wp_at_zero Go.wp_at_succ
set_option linter.unusedVariables false

/-- The piece in which a place is. -/
def Prof.piece (P : Prof) (x : Int) : Nat := if P.find x < P.np - 1 then P.find x else P.np - 1
theorem Prof.piece_lt {P : Prof} (h1 : 1 ≤ P.np) (x : Int) : P.piece x < P.np := by unfold Prof.piece; split <;> omega
theorem Prof.rate_piece {P : Prof} (h : P.Up) (h1 : 1 ≤ P.np) (x : Int) : P.rate x = P.B (P.piece x) := by
  unfold Prof.piece
  split
  · next c => exact Prof.rate_low h h1 c
  · next c => exact Prof.rate_high h h1 (by omega)

set_option maxHeartbeats 2000000 in
theorem pieceAt_any (P : Prof) (v : Value) (x : Int) (w : World) (hl : P.WayIs w v) (hok : P.Up) (h1 : 1 ≤ P.np) :
    Calls Try.prog 115 #[v, .int .i64 x] w fun e w' => e = .returned (.int .i64 (P.piece x)) ∧ Below w.heap.size w w' := by
  obtain ⟨ap, cp, az, cz, g, rfl, hn, hn', hr2, hr3, hrow⟩ := hl
  have HL : Hid (P.Up) := hok
  have hsz := hok.1
  have hfl := P.find_le hok x
  have hmin : (if (P.np : Int) - 1 < (P.find x : Int) then (P.np : Int) - 1 else (P.find x : Int)) = (P.piece x : Int) := by unfold Prof.piece; split <;> split <;> omega
  have HM : Hid ((if (P.np : Int) - 1 < (P.find x : Int) then (P.np : Int) - 1 else (P.find x : Int)) = (P.piece x : Int)) := hmin
  have HROW : Hid (w.rowIs g 3 P.np (endOf P.L)) := hrow
  clear hr2 hr3 hrow hok hmin
  go_enter Try.func115, Try.ntmps115
  go_wp2
  generalize hW : w.alloc _ = W
  have bW : Below w.heap.size w W := by rw [← hW]; exact (Below.refl _ _).alloc (Nat.le_refl _) _
  have sW : W.heap.size = w.heap.size + 1 := by rw [← hW]; simp
  have x5 : W.cell? ⟨w.heap.size, 5, none⟩ = some (.slice (some ⟨g, 0, none⟩) P.np P.np) := by subst hW; go_simp
  clear hW
  go_region_held3 (fun y => y.cell? ⟨w.heap.size, 5, none⟩ = some (.slice (some ⟨g, 0, none⟩) P.np P.np)) (first | go_keep | (rw [hb2.cell (by simp; omega)]; assumption))
      ((go_at_call 131; refine (firstAbove_any P x _ g (rowIs_below HROW.out bW.drew) HL.out).mono ?_; rintro e w2 ⟨rfl, hb2⟩))
  have b2 : Below w.heap.size w w2 := bW.drew.trans (hb2.mono (by simp; omega))
  rw [wrapIn (x := (P.np : Int) - 1) (by omega) (by omega), HM.out]
  clear hb2
  go_wp2
  go_ret
  exact ⟨rfl, b2⟩

set_option maxHeartbeats 2000000 in
theorem brakeAt_any (P : Prof) (v : Value) (x : Int) (w : World) (hl : P.WayIs w v) (hok : P.Up) (h1 : 1 ≤ P.np) :
    Calls Try.prog 77 #[v, .int .i64 x] w fun e w' => e = .returned (.int .i64 (P.rate x)) ∧ Below w.heap.size w w' := by
  have HW : Hid (P.WayIs w v) := hl
  obtain ⟨ap, cp, az, cz, g, rfl, hn, hn', hr2, hr3, hrow⟩ := hl
  have HL : Hid (P.Up) := hok
  have hsz := hok.1
  have hpl := P.piece_lt h1 x
  rcases hr2 with h0 | ⟨b, off, rfl, hb, hc⟩
  · omega
  have HC : Hid (∀ j, j < P.np → w.cell? ⟨b, off + j * 2, none⟩ = some (.int .i64 (P.L j)) ∧ w.cell? ⟨b, off + j * 2 + 1, none⟩ = some (.int .i64 (P.B j))) := hc
  have HE : Hid (P.rate x = P.B (P.piece x)) := Prof.rate_piece hok h1 x
  clear hr3 hrow hc hok
  go_enter Try.func77, Try.ntmps77
  go_wp2
  generalize hW : w.alloc _ = W
  have bW : Below w.heap.size w W := by rw [← hW]; exact (Below.refl _ _).alloc (Nat.le_refl _) _
  have sW : W.heap.size = w.heap.size + 1 := by rw [← hW]; simp
  have x0 : W.cell? ⟨w.heap.size, 0, none⟩ = some (.slice (some ⟨b, off, none⟩) P.np cp) := by subst hW; go_simp
  have x1 : W.cell? ⟨w.heap.size, 1, none⟩ = some (.slice az P.nz cz) := by subst hW; go_simp
  have x2 : W.cell? ⟨w.heap.size, 2, none⟩ = some (.int .i64 P.train) := by subst hW; go_simp
  have x3 : W.cell? ⟨w.heap.size, 3, none⟩ = some (.int .i64 P.fin) := by subst hW; go_simp
  have x4 : W.cell? ⟨w.heap.size, 4, none⟩ = some (.int .i64 P.delay) := by subst hW; go_simp
  have x5 : W.cell? ⟨w.heap.size, 5, none⟩ = some (.slice (some ⟨g, 0, none⟩) P.np P.np) := by subst hW; go_simp
  have x6 : W.cell? ⟨b, off + P.piece x * 2 + 1, none⟩ = some (.int .i64 (P.B (P.piece x))) := by rw [bW.cell hb]; exact (HC.out _ hpl).2
  clear hW
  go_region_held3 (fun y => y.cell? ⟨b, off + P.piece x * 2 + 1, none⟩ = some (.int .i64 (P.B (P.piece x))) ∧ y.cell? ⟨w.heap.size, 0, none⟩ = some (.slice (some ⟨b, off, none⟩) P.np cp) ∧ y.cell? ⟨w.heap.size, 1, none⟩ = some (.slice az P.nz cz) ∧ y.cell? ⟨w.heap.size, 2, none⟩ = some (.int .i64 P.train) ∧ y.cell? ⟨w.heap.size, 3, none⟩ = some (.int .i64 P.fin) ∧ y.cell? ⟨w.heap.size, 4, none⟩ = some (.int .i64 P.delay) ∧ y.cell? ⟨w.heap.size, 5, none⟩ = some (.slice (some ⟨g, 0, none⟩) P.np P.np)) (first | go_keep | (go_split_ands; refine ⟨?_, ?_, ?_, ?_, ?_, ?_, ?_⟩ <;> (rw [hb2.cell (by simp; omega)]; assumption)))
      ((go_at_call 115; refine (pieceAt_any P _ x _ (HW.out.below bW.drew) HL.out h1).mono ?_; rintro e w2 ⟨rfl, hb2⟩))
  have b2 : Below w.heap.size w w2 := bW.drew.trans (hb2.mono (by simp; omega))
  clear hb2
  go_wp2
  go_ret
  exact ⟨ret_int HE.out.symm, b2⟩

set_option maxHeartbeats 2000000 in
theorem implBrakeAt_yes (P : Prof) (v : Value) (x : Int) (w : World) (hl : P.Lies w v) (h : P.With x) :
    Calls Try.prog 22 #[v, .int .i64 x] w fun e w' => e = .returned (.int .i64 (P.brakeAns x)) ∧ Below w.heap.size w w' := by
  have HV : Hid (P.Lies w v) := hl
  have HA : Hid (P.With x) := h
  have h1 := h.1.counts.1
  obtain ⟨ap, cp, az, cz, rfl, hn, hn', hr2, hr3⟩ := hl
  clear hr2 hr3 h
  go_enter Try.func22, Try.ntmps22
  go_wp2_with fail
  have b0 : Below w.heap.size w (w.alloc (.cells #[.slice ap P.np cp, .slice az P.nz cz, .int .i64 P.train, .int .i64 P.fin, .int .i64 P.delay] 33)) := (Below.refl _ _).alloc (Nat.le_refl _) _
  refine (wayWith_yes P _ x _ (HV.out.below b0) HA.out).mono ?_
  rintro e w2 ⟨v', rfl, hway, hb2⟩
  have b2 := b0.trans (hb2.mono b0.size)
  have HWAY : Hid (P.WayIs w2 v') := hway
  obtain ⟨bp, dp, bz, dz, g, rfl, _, _, _, _, hrow⟩ := hway
  clear hb2 hrow b0
  go_wp2_with fail
  have bq : Below w2.heap.size w2 (w2.alloc (.cells #[.slice bp P.np dp, .slice bz P.nz dz, .int .i64 P.train, .int .i64 P.fin, .int .i64 P.delay, .slice (some ⟨g, 0, none⟩) P.np P.np] 82)) := (Below.refl _ _).alloc (Nat.le_refl _) _
  refine (brakeAt_any P _ x _ (HWAY.out.below bq) HA.out.1.lens.up h1).mono ?_
  rintro e w4 ⟨rfl, hb4⟩
  have b4 := (b2.trans (bq.mono b2.size)).trans (hb4.mono (by have := b2.size; simp; omega))
  clear hb4 bq
  go_wp2
  go_ret
  exact ⟨ret_int (brakeAns_yes HA.out).symm, b4⟩

set_option maxHeartbeats 2000000 in
theorem implBrakeAt_no (P : Prof) (v : Value) (x : Int) (w : World) (hl : P.Lies w v) (h : ¬ P.With x) :
    Calls Try.prog 22 #[v, .int .i64 x] w fun e w' => e = .returned (.int .i64 (P.brakeAns x)) ∧ Below w.heap.size w w' := by
  have HV : Hid (P.Lies w v) := hl
  have HA : Hid (¬ P.With x) := h
  obtain ⟨ap, cp, az, cz, rfl, hn, hn', hr2, hr3⟩ := hl
  clear hr2 hr3 h
  go_enter Try.func22, Try.ntmps22
  go_wp2_with fail
  have b0 : Below w.heap.size w (w.alloc (.cells #[.slice ap P.np cp, .slice az P.nz cz, .int .i64 P.train, .int .i64 P.fin, .int .i64 P.delay] 33)) := (Below.refl _ _).alloc (Nat.le_refl _) _
  refine (wayWith_no P _ x _ (HV.out.below b0) HA.out).mono ?_
  rintro e w2 ⟨rfl, hb2⟩
  have b2 := b0.trans (hb2.mono b0.size)
  clear hb2 b0
  go_wp2
  go_ret
  exact ⟨ret_int (brakeAns_no HA.out).symm, b2.alloc b2.size _⟩

theorem implBrakeAt_any (P : Prof) (v : Value) (x : Int) (w : World) (hl : P.Lies w v) :
    Calls Try.prog 22 #[v, .int .i64 x] w fun e w' => e = .returned (.int .i64 (P.brakeAns x)) ∧ Below w.heap.size w w' := by
  by_cases h : P.With x
  · exact implBrakeAt_yes P v x w hl h
  · exact implBrakeAt_no P v x w hl h

end Go.Proofs.Yteodefmpkljedab
