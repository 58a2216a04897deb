/-
  The program's BrakeAt.
-/
import Derived.Test.YtgmkdmggkgjibabImplAt
namespace Go.Proofs.Ytgmkdmggkgjibab
open Go.RowKit
attribute [local go_sem ↓] Go.wp_at_zero Go.wp_at_succ
set_option linter.unusedVariables false

set_option maxHeartbeats 2000000 in
theorem brakeAt_any (P : Prof) (v : Value) (x : Int) (w : World) (hl : P.WayIs w v) (hok : P.Lens) (h1 : 1 ≤ P.np) :
    Calls Try.prog 77 #[v, .int .i64 x] w fun e w' => e = .returned (.int .i64 (P.rate x)) ∧ Below w.heap.size w w' := by
  obtain ⟨ap, cp, az, cz, g, rfl, hn, hn', hr2, hr3, hrow⟩ := hl
  have HL : Hid (P.Lens) := hok
  have hsz := hok.1
  have hfl := P.find_le hok x
  have HROW : Hid (w.rowIs g 3 P.np (endOf P.L)) := hrow
  rcases hr2 with h0 | ⟨b, off, rfl, hb, hc⟩
  · omega
  have HC : Hid (∀ j, j < P.np → w.cell? ⟨b, off + j * 2, none⟩ = some (.int .i64 (P.L j)) ∧ w.cell? ⟨b, off + j * 2 + 1, none⟩ = some (.int .i64 (P.B j))) := hc
  clear hr3 hrow hc hok
  go_enter Try.func77, Try.ntmps77
  go_wp2
  generalize hW : w.alloc _ = W
  have bW : Below w.heap.size w W := by rw [← hW]; exact (Below.refl _ _).alloc (Nat.le_refl _) _
  have sW : W.heap.size = w.heap.size + 1 := by rw [← hW]; simp
  have x0 : W.cell? ⟨w.heap.size, 0, none⟩ = some (.slice (some ⟨b, off, none⟩) P.np cp) := by subst hW; go_simp
  have x5 : W.cell? ⟨w.heap.size, 5, none⟩ = some (.slice (some ⟨g, 0, none⟩) P.np P.np) := by subst hW; go_simp
  clear hW
  by_cases hm : P.find x < P.np - 1
  · have HE : Hid (P.rate x = P.B (P.find x)) := Prof.rate_low HL.out h1 hm
    go_region_held3 (fun y => y.cell? ⟨w.heap.size, 0, none⟩ = some (.slice (some ⟨b, off, none⟩) P.np cp) ∧ y.cell? ⟨w.heap.size, 5, none⟩ = some (.slice (some ⟨g, 0, none⟩) P.np P.np)) (first | go_keep | (go_split_ands; refine ⟨?_, ?_⟩ <;> (rw [hb2.cell (by simp; omega)]; assumption)))
      ((go_at_call 103; refine (firstAbove_any P x _ g (rowIs_below HROW.out bW.drew) HL.out).mono ?_; rintro e w2 ⟨rfl, hb2⟩))
    have b2 : Below w.heap.size w w2 := bW.drew.trans (hb2.mono (by simp; omega))
    have y0 : w2.cell? ⟨w.heap.size, 0, none⟩ = some (.slice (some ⟨b, off, none⟩) P.np cp) := (hb2.cell (p := ⟨w.heap.size, 0, none⟩) (by simp; omega)).trans (by simpa using x0)
    have y1 : w2.cell? ⟨b, off + P.find x * 2 + 1, none⟩ = some (.int .i64 (P.B (P.find x))) := by rw [b2.cell hb]; exact (HC.out _ (by omega)).2
    rw [wrapIn (x := (P.np : Int) - 1) (by omega) (by omega), if_neg (by omega)]
    clear hb2
    go_wp2
    go_ret
    exact ⟨ret_int HE.out.symm, b2⟩
  · have HE : Hid (P.rate x = P.B (P.np - 1)) := Prof.rate_high HL.out h1 (by omega)
    go_region_held3 (fun y => y.cell? ⟨w.heap.size, 0, none⟩ = some (.slice (some ⟨b, off, none⟩) P.np cp) ∧ y.cell? ⟨w.heap.size, 5, none⟩ = some (.slice (some ⟨g, 0, none⟩) P.np P.np)) (first | go_keep | (go_split_ands; refine ⟨?_, ?_⟩ <;> (rw [hb2.cell (by simp; omega)]; assumption)))
      ((go_at_call 103; refine (firstAbove_any P x _ g (rowIs_below HROW.out bW.drew) HL.out).mono ?_; rintro e w2 ⟨rfl, hb2⟩))
    have b2 : Below w.heap.size w w2 := bW.drew.trans (hb2.mono (by simp; omega))
    have y0 : w2.cell? ⟨w.heap.size, 0, none⟩ = some (.slice (some ⟨b, off, none⟩) P.np cp) := (hb2.cell (p := ⟨w.heap.size, 0, none⟩) (by simp; omega)).trans (by simpa using x0)
    have y1 : w2.cell? ⟨b, off + (P.np - 1) * 2 + 1, none⟩ = some (.int .i64 (P.B (P.np - 1))) := by rw [b2.cell hb]; exact (HC.out _ (by omega)).2
    have hmin : (if (P.np : Int) - 1 < (P.find x : Int) then (P.np : Int) - 1 else (P.find x : Int)) = ((P.np - 1 : Nat) : Int) := by split <;> omega
    rw [wrapIn (x := (P.np : Int) - 1) (by omega) (by omega), hmin]
    clear hb2
    go_wp2
    go_ret
    exact ⟨ret_int HE.out.symm, b2⟩

set_option maxHeartbeats 2000000 in
theorem implBrakeAt_yes (P : Prof) (v : Value) (x : Int) (w : World) (hl : P.Lies w v) (h : P.With x) :
    Calls Try.prog 22 #[v, .int .i64 x] w fun e w' => e = .returned (.int .i64 (P.brakeAns x)) ∧ Below w.heap.size w w' := by
  have HV : Hid (P.Lies w v) := hl
  have HA : Hid (P.With x) := h
  have h1 := h.1.counts.1
  obtain ⟨ap, cp, az, cz, rfl, hn, hn', hr2, hr3⟩ := hl
  clear hr2 hr3 h
  go_enter Try.func22, Try.ntmps22
  go_wp2_with fail
  have b0 : Below w.heap.size w (w.alloc (.cells #[.slice ap P.np cp, .slice az P.nz cz, .int .i64 P.train, .int .i64 P.fin, .int .i64 P.delay] 33)) := (Below.refl _ _).alloc (Nat.le_refl _) _
  refine (wayWith_yes P _ x _ (HV.out.below b0) HA.out).mono ?_
  rintro e w2 ⟨v', rfl, hway, hb2⟩
  have b2 := b0.trans (hb2.mono b0.size)
  have HWAY : Hid (P.WayIs w2 v') := hway
  obtain ⟨bp, dp, bz, dz, g, rfl, _, _, _, _, hrow⟩ := hway
  clear hb2 hrow b0
  go_wp2_with fail
  have bq : Below w2.heap.size w2 (w2.alloc (.cells #[.slice bp P.np dp, .slice bz P.nz dz, .int .i64 P.train, .int .i64 P.fin, .int .i64 P.delay, .slice (some ⟨g, 0, none⟩) P.np P.np] 83)) := (Below.refl _ _).alloc (Nat.le_refl _) _
  refine (brakeAt_any P _ x _ (HWAY.out.below bq) HA.out.1.lens h1).mono ?_
  rintro e w4 ⟨rfl, hb4⟩
  have b4 := (b2.trans (bq.mono b2.size)).trans (hb4.mono (by have := b2.size; simp; omega))
  clear hb4 bq
  go_wp2
  go_ret
  exact ⟨ret_int (brakeAns_yes HA.out).symm, b4⟩

set_option maxHeartbeats 2000000 in
theorem implBrakeAt_no (P : Prof) (v : Value) (x : Int) (w : World) (hl : P.Lies w v) (h : ¬ P.With x) :
    Calls Try.prog 22 #[v, .int .i64 x] w fun e w' => e = .returned (.int .i64 (P.brakeAns x)) ∧ Below w.heap.size w w' := by
  have HV : Hid (P.Lies w v) := hl
  have HA : Hid (¬ P.With x) := h
  obtain ⟨ap, cp, az, cz, rfl, hn, hn', hr2, hr3⟩ := hl
  clear hr2 hr3 h
  go_enter Try.func22, Try.ntmps22
  go_wp2_with fail
  have b0 : Below w.heap.size w (w.alloc (.cells #[.slice ap P.np cp, .slice az P.nz cz, .int .i64 P.train, .int .i64 P.fin, .int .i64 P.delay] 33)) := (Below.refl _ _).alloc (Nat.le_refl _) _
  refine (wayWith_no P _ x _ (HV.out.below b0) HA.out).mono ?_
  rintro e w2 ⟨rfl, hb2⟩
  have b2 := b0.trans (hb2.mono b0.size)
  clear hb2 b0
  go_wp2
  go_ret
  exact ⟨ret_int (brakeAns_no HA.out).symm, b2.alloc b2.size _⟩

theorem implBrakeAt_any (P : Prof) (v : Value) (x : Int) (w : World) (hl : P.Lies w v) :
    Calls Try.prog 22 #[v, .int .i64 x] w fun e w' => e = .returned (.int .i64 (P.brakeAns x)) ∧ Below w.heap.size w w' := by
  by_cases h : P.With x
  · exact implBrakeAt_yes P v x w hl h
  · exact implBrakeAt_no P v x w hl h

end Go.Proofs.Ytgmkdmggkgjibab
