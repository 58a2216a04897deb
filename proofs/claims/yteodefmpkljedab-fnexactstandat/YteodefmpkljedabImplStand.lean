/-
  The program's StandAt.
-/
import Derived.Test.YteodefmpkljedabImplBrake
namespace Go.Proofs.Yteodefmpkljedab
open Go.RowKit
attribute [local go_sem ↓] Go.wp_at_zero Go.wp_at_succ
set_option linter.unusedVariables false

set_option maxHeartbeats 2000000 in
theorem implStandAt_no (P : Prof) (v : Value) (x u : Int) (w : World) (hl : P.Lies w v) (h : ¬ P.With x) :
    Calls Try.prog 26 #[v, .int .i64 x, .int .i64 u] w fun e w' => e = .returned (.int .i64 (P.standAns x u)) ∧ Below w.heap.size w w' := by
  have HV : Hid (P.Lies w v) := hl
  have HA : Hid (¬ P.With x) := h
  obtain ⟨ap, cp, az, cz, rfl, hn, hn', hr2, hr3⟩ := hl
  clear hr2 hr3 h
  go_enter Try.func26, Try.ntmps26
  go_wp2_with fail
  have b0 : Below w.heap.size w (w.alloc (.cells #[.slice ap P.np cp, .slice az P.nz cz, .int .i64 P.train, .int .i64 P.fin, .int .i64 P.delay] 33)) := (Below.refl _ _).alloc (Nat.le_refl _) _
  refine (wayWith_no P _ x _ (HV.out.below b0) HA.out).mono ?_
  rintro e w2 ⟨rfl, hb2⟩
  have b2 := b0.trans (hb2.mono b0.size)
  clear hb2 b0
  go_wp2
  go_ret
  exact ⟨ret_int (standAns_no HA.out).symm, b2.alloc b2.size _⟩

set_option maxHeartbeats 2000000 in
theorem implStandAt_fast (P : Prof) (v : Value) (x u : Int) (w : World) (hl : P.Lies w v) (h : P.With x) (hu : u < 0 ∨ 10000 < u) :
    Calls Try.prog 26 #[v, .int .i64 x, .int .i64 u] w fun e w' => e = .returned (.int .i64 (P.standAns x u)) ∧ Below w.heap.size w w' := by
  have HV : Hid (P.Lies w v) := hl
  have HA : Hid (P.With x) := h
  obtain ⟨ap, cp, az, cz, rfl, hn, hn', hr2, hr3⟩ := hl
  clear hr2 hr3 h
  go_enter Try.func26, Try.ntmps26
  go_wp2_with fail
  have b0 : Below w.heap.size w (w.alloc (.cells #[.slice ap P.np cp, .slice az P.nz cz, .int .i64 P.train, .int .i64 P.fin, .int .i64 P.delay] 33)) := (Below.refl _ _).alloc (Nat.le_refl _) _
  refine (wayWith_yes P _ x _ (HV.out.below b0) HA.out).mono ?_
  rintro e w2 ⟨v', rfl, hway, hb2⟩
  have b2 := b0.trans (hb2.mono b0.size)
  obtain ⟨bp, dp, bz, dz, g, rfl, _, _, _, _, hrow⟩ := hway
  clear hb2 hrow b0
  go_wp2_with (go_at_call 56; refine (isSpeed_no _ _ hu).mono ?_; rintro e w3 ⟨rfl, rfl⟩)
  go_ret
  exact ⟨ret_int (standAns_no' hu).symm, b2.alloc b2.size _⟩

/-- A variable that holds a way. -/
def Prof.WayBox (P : Prof) (w : World) (n : Nat) (ap az : Option Addr) (cp cz g : Nat) : Prop :=
  w.cell? ⟨n, 0, none⟩ = some (.slice ap P.np cp) ∧ w.cell? ⟨n, 1, none⟩ = some (.slice az P.nz cz) ∧ w.cell? ⟨n, 2, none⟩ = some (.int .i64 P.train) ∧ w.cell? ⟨n, 3, none⟩ = some (.int .i64 P.fin) ∧ w.cell? ⟨n, 4, none⟩ = some (.int .i64 P.delay) ∧ w.cell? ⟨n, 5, none⟩ = some (.slice (some ⟨g, 0, none⟩) P.np P.np)
theorem Prof.WayBox.below {P : Prof} {w w1 : World} {n : Nat} {ap az : Option Addr} {cp cz g : Nat} (h : P.WayBox w n ap az cp cz g) (hb : Below w.heap.size w w1) : P.WayBox w1 n ap az cp cz g := by
  have hn : n < w.heap.size := World.block_lt_of_cell? _ _ h.1
  obtain ⟨h0, h1, h2, h3, h4, h5⟩ := h
  refine ⟨?_, ?_, ?_, ?_, ?_, ?_⟩ <;> (rw [hb.cell hn]; assumption)

set_option maxHeartbeats 4000000 in
theorem implStandAt_yes (P : Prof) (v : Value) (x u : Int) (w : World) (hl : P.Lies w v) (h : P.With x) (hu0 : 0 ≤ u) (hu1 : u ≤ 10000) :
    Calls Try.prog 26 #[v, .int .i64 x, .int .i64 u] w fun e w' => e = .returned (.int .i64 (P.standAns x u)) ∧ Below w.heap.size w w' := by
  have HV : Hid (P.Lies w v) := hl
  have HA : Hid (P.With x) := h
  have h1 := h.1.counts.1
  obtain ⟨ap, cp, az, cz, rfl, hn, hn', hr2, hr3⟩ := hl
  obtain ⟨hok, g0, g1⟩ := h
  have HOK : Hid P.Ok := hok
  have htot := (Prof.total_bounds hok.lens).2
  clear hr2 hr3 hok
  go_enter Try.func26, Try.ntmps26
  go_wp2_with fail
  have b0 : Below w.heap.size w (w.alloc (.cells #[.slice ap P.np cp, .slice az P.nz cz, .int .i64 P.train, .int .i64 P.fin, .int .i64 P.delay] 33)) := (Below.refl _ _).alloc (Nat.le_refl _) _
  refine (wayWith_yes P _ x _ (HV.out.below b0) HA.out).mono ?_
  rintro e w2 ⟨v', rfl, hway, hb2⟩
  have b2 := b0.trans (hb2.mono b0.size)
  have HWAY : Hid (P.WayIs w2 v') := hway
  obtain ⟨bp, dp, bz, dz, g, rfl, _, _, _, _, hrow⟩ := hway
  clear hb2 hrow b0
  go_wp2_with (go_at_call 56; refine (isSpeed_yes _ _ hu0 hu1).mono ?_; rintro e w2b ⟨rfl, rfl⟩)
  go_loopw [1, 2] (fun sx sv wr => ∃ y z : Int, sx = .int .i64 y ∧ sv = .int .i64 z ∧ 0 ≤ y ∧ y ≤ P.total ∧ 0 ≤ z ∧ z ≤ 10000 ∧ Hid (P.stand y z = P.stand x u) ∧ Hid (P.WayBox wr w2.heap.size bp bz dp dz g) ∧ Hid (P.WayIs wr (.agg #[.slice bp P.np dp, .slice bz P.nz dz, .int .i64 P.train, .int .i64 P.fin, .int .i64 P.delay, .slice (some ⟨g, 0, none⟩) P.np P.np])) ∧ Below w.heap.size w wr) (fun _ sv _ => (intOf sv).toNat)
  case atStart =>
    refine ⟨x, u, rfl, rfl, g0, g1, hu0, hu1, rfl, ?_, HWAY.out.below ((Below.refl _ _).alloc (Nat.le_refl _) _), b2.alloc b2.size _⟩
    show Prof.WayBox _ _ _ _ _ _ _ _
    refine ⟨?_, ?_, ?_, ?_, ?_, ?_⟩ <;> go_simp
  case round =>
    clear b2 HWAY
    obtain ⟨y, z, rfl, rfl, hy0, hy1, hz0, hz1, HE, HBX, HWY, hbel⟩ := hrel
    by_cases hlt : 0 < z
    · have hr := HOK.out.rate y
      obtain ⟨hr0, hr1⟩ := hr
      have hls := less_lt (v := z) (b := P.rate y) (by omega) (by omega)
      obtain ⟨hl0, hl1⟩ := less_bounds (v := z) (b := P.rate y) (by omega) (by omega)
      have HS : Hid (P.stand y z = if P.total < y + less z (P.rate y) then -1 else P.stand (y + less z (P.rate y)) (less z (P.rate y))) := P.stand_step (fun a => by have := HOK.out.rate a; omega) hlt
      have hboxr := HBX.out
      obtain ⟨x0, x1, x2, x3, x4, x5⟩ := hboxr
      go_wp2_with fail
      refine (brakeAt_any P _ y _ HWY.out HOK.out.lens.up h1).mono ?_
      rintro e w5 ⟨rfl, hb5⟩
      have b5 := hbel.trans (hb5.mono hbel.size)
      have HB5 : Hid (P.WayBox w5 w2.heap.size bp bz dp dz g) := HBX.out.below hb5
      have HW5 := HWY.out.below hb5
      clear x0 x1 x2 x3 x4 x5 hb5
      have hboxr := HB5.out
      obtain ⟨x0, x1, x2, x3, x4, x5⟩ := hboxr
      by_cases hc : z < P.rate y
      · have he : less z (P.rate y) = 0 := by unfold less; rw [if_pos hc]
        have HF : Hid (P.stand y 0 = P.stand x u) := by
          show _ = _
          rw [← HE.out, HS.out, he, Int.add_zero, if_neg (by omega)]
        clear HS
        go_wp2_with fail
        refine (isPlace_yes P _ _ _ HW5 h1 (by omega) (by omega)).mono ?_
        rintro e w6 ⟨rfl, hb6⟩
        have b6 := b5.trans (hb6.mono b5.size)
        have HB6 : Hid (P.WayBox w6 w2.heap.size bp bz dp dz g) := HB5.out.below hb6
        have HW6 := HW5.below hb6
        clear x0 x1 x2 x3 x4 x5 hb6 HW5
        go_wp2
        go_roundw
        case rel => exact ⟨y, 0, rfl, rfl, by omega, by omega, by omega, by omega, HF.out, HB6.out, HW6, b6⟩
        case measure => simp [intOf]; omega
      · have he : less z (P.rate y) = z - P.rate y := by unfold less; rw [if_neg hc]
        by_cases ht : P.total < y + (z - P.rate y)
        · have HF : Hid (P.stand x u = -1) := by
            show _ = _
            rw [← HE.out, HS.out, he, if_pos ht]
          clear HS
          go_wp2_with fail
          refine (isPlace_no P _ _ _ HW5 h1 (by omega)).mono ?_
          rintro e w6 ⟨rfl, hb6⟩
          have b6 := b5.trans (hb6.mono b5.size)
          clear x0 x1 x2 x3 x4 x5 hb6 HW5
          go_wp2
          go_ret
          exact ⟨ret_int ((standAns_yes HA.out hu0 hu1).trans HF.out).symm, b6⟩
        · have HF : Hid (P.stand (y + (z - P.rate y)) (z - P.rate y) = P.stand x u) := by
            show _ = _
            rw [← HE.out, HS.out, he, if_neg ht]
          clear HS
          go_wp2_with fail
          refine (isPlace_yes P _ _ _ HW5 h1 (by omega) (by omega)).mono ?_
          rintro e w6 ⟨rfl, hb6⟩
          have b6 := b5.trans (hb6.mono b5.size)
          have HB6 : Hid (P.WayBox w6 w2.heap.size bp bz dp dz g) := HB5.out.below hb6
          have HW6 := HW5.below hb6
          clear x0 x1 x2 x3 x4 x5 hb6 HW5
          go_wp2
          go_roundw
          case rel => exact ⟨y + (z - P.rate y), z - P.rate y, rfl, rfl, by omega, by omega, by omega, by omega, HF.out, HB6.out, HW6, b6⟩
          case measure => simp [intOf]; omega
    · have e : z = 0 := by omega
      subst e
      have HF : Hid (P.stand x u = y) := by show _ = _; rw [← HE.out]; exact P.stand_zero (by omega)
      go_wp2
      go_ret
      exact ⟨ret_int ((standAns_yes HA.out hu0 hu1).trans HF.out).symm, hbel⟩

theorem implStandAt_any (P : Prof) (v : Value) (x u : Int) (w : World) (hl : P.Lies w v) :
    Calls Try.prog 26 #[v, .int .i64 x, .int .i64 u] w fun e w' => e = .returned (.int .i64 (P.standAns x u)) ∧ Below w.heap.size w w' := by
  by_cases h : P.With x
  · by_cases g : 0 ≤ u ∧ u ≤ 10000
    · exact implStandAt_yes P v x u w hl h g.1 g.2
    · exact implStandAt_fast P v x u w hl h (by omega)
  · exact implStandAt_no P v x u w hl h

end Go.Proofs.Yteodefmpkljedab
