/-
  The models of BrakeAt, LimitAt and StandAt.
-/
import Derived.Test.YteodefmpkljedabSpecOk
import Derived.Test.YteodefmpkljedabImplOk2
namespace Go.Proofs.Yteodefmpkljedab
open Go.RowKit Go.Sort
set_option linter.unusedVariables false

/-- The answers of chapter 2. -/
def Prof.brakeAns (P : Prof) (x : Int) : Int := if P.code = 0 ∧ 0 ≤ x ∧ x ≤ P.total then P.rate x else -1
def Prof.limitAns (P : Prof) (x : Int) : Int := if P.code = 0 ∧ 0 ≤ x ∧ x ≤ P.total then P.over x x else -1
def Prof.standAns (P : Prof) (x v : Int) : Int := if (P.code = 0 ∧ 0 ≤ x ∧ x ≤ P.total) ∧ 0 ≤ v ∧ v ≤ 10000 then P.stand x v else -1
theorem Prof.with_iff {P : Prof} {x : Int} : (P.code = 0 ∧ 0 ≤ x ∧ x ≤ P.total) ↔ P.With x := by unfold Prof.With; rw [Prof.code_zero]
theorem brakeAns_yes {P : Prof} {x : Int} (h : P.With x) : P.brakeAns x = P.rate x := if_pos (Prof.with_iff.2 h)
theorem brakeAns_no {P : Prof} {x : Int} (h : ¬ P.With x) : P.brakeAns x = -1 := if_neg (fun c => h (Prof.with_iff.1 c))
theorem limitAns_yes {P : Prof} {x : Int} (h : P.With x) : P.limitAns x = P.over x x := if_pos (Prof.with_iff.2 h)
theorem limitAns_no {P : Prof} {x : Int} (h : ¬ P.With x) : P.limitAns x = -1 := if_neg (fun c => h (Prof.with_iff.1 c))
theorem standAns_yes {P : Prof} {x v : Int} (h : P.With x) (g : 0 ≤ v) (k : v ≤ 10000) : P.standAns x v = P.stand x v := if_pos ⟨Prof.with_iff.2 h, g, k⟩
theorem standAns_no {P : Prof} {x v : Int} (h : ¬ P.With x) : P.standAns x v = -1 := if_neg (fun c => h (Prof.with_iff.1 c.1))
theorem standAns_no' {P : Prof} {x v : Int} (h : v < 0 ∨ 10000 < v) : P.standAns x v = -1 := if_neg (fun c => by omega)
theorem Prof.not_with {P : Prof} {x : Int} (h : ¬ P.With x) (hok : P.Ok) : x < 0 ∨ P.total < x := by
  unfold Prof.With at h
  rcases Int.lt_or_le x 0 with c | c
  · exact Or.inl c
  · rcases Int.lt_or_le P.total x with d | d
    · exact Or.inr d
    · exact absurd ⟨hok, c, d⟩ h

set_option maxHeartbeats 2000000 in
theorem specBrakeAt_yes (P : Prof) (v : Value) (x : Int) (w : World) (hl : P.Lies w v) (h : P.With x) :
    Calls Try.prog 21 #[v, .int .i64 x] w fun e w' => e = .returned (.int .i64 (P.brakeAns x)) ∧ Below w.heap.size w w' := by
  have HA : Hid (P.With x) := h
  have HV : Hid (P.Lies w v) := hl
  obtain ⟨ap, cp, az, cz, rfl, hn, hn', hr2, hr3⟩ := hl
  obtain ⟨hok, g0, g1⟩ := h
  have HOK : Hid P.Ok := hok
  have h1 := hok.counts.1
  have htot := (Prof.total_bounds hok.lens).2
  clear hok
  clear hr2 hr3
  go_enter Try.func21, Try.ntmps21
  go_wp2_with fail
  generalize hW : w.alloc _ = W
  have bW : Below w.heap.size w W := by rw [← hW]; exact (Below.refl _ _).alloc (Nat.le_refl _) _
  have hbox : P.BoxAt W w.heap.size ap az cp cz := by subst hW; exact ⟨by go_simp, by go_simp, by go_simp, by go_simp, by go_simp⟩
  clear hW
  refine (specOk_any P _ _ (HV.out.below bW)).mono ?_
  rintro e w1 ⟨rfl, hb1⟩
  have b1 := bW.trans (hb1.mono bW.size)
  have HB1 : Hid (P.BoxAt w1 w.heap.size ap az cp cz) := hbox.below hb1
  have hbox1 := HB1.out
  obtain ⟨x0, x1, x2, x3, x4⟩ := hbox1
  clear hb1 bW hbox
  rw [Prof.code_ok HOK.out]
  go_wp2_with fail
  refine (l2total_any P _ _ (HV.out.below b1) HOK.out.lens).mono ?_
  rintro e w2 ⟨rfl, hb2⟩
  have b2 := b1.trans (hb2.mono b1.size)
  have HB2 : Hid (P.BoxAt w2 w.heap.size ap az cp cz) := HB1.out.below hb2
  have hbox2 := HB2.out
  clear x0 x1 x2 x3 x4 hb2
  obtain ⟨x0, x1, x2, x3, x4⟩ := hbox2
  go_wp2_with fail
  refine (l1in_yes _ _ _ _ g0 g1).mono ?_
  rintro e w2b ⟨rfl, hw⟩
  rw [hw]
  clear hw
  go_wp2_with fail
  refine (l2rate_any P _ x _ (HV.out.below b2) HOK.out.lens h1).mono ?_
  rintro e w3 ⟨rfl, hb3⟩
  have b3 := b2.trans (hb3.mono b2.size)
  clear hb3
  go_wp2
  go_ret
  exact ⟨ret_int (brakeAns_yes HA.out).symm, b3⟩

set_option maxHeartbeats 2000000 in
theorem specBrakeAt_no (P : Prof) (v : Value) (x : Int) (w : World) (hl : P.Lies w v) (h : ¬ P.With x) :
    Calls Try.prog 21 #[v, .int .i64 x] w fun e w' => e = .returned (.int .i64 (P.brakeAns x)) ∧ Below w.heap.size w w' := by
  have HA : Hid (¬ P.With x) := h
  have HV : Hid (P.Lies w v) := hl
  obtain ⟨ap, cp, az, cz, rfl, hn, hn', hr2, hr3⟩ := hl
  clear h
  clear hr2 hr3
  go_enter Try.func21, Try.ntmps21
  go_wp2_with fail
  generalize hW : w.alloc _ = W
  have bW : Below w.heap.size w W := by rw [← hW]; exact (Below.refl _ _).alloc (Nat.le_refl _) _
  have hbox : P.BoxAt W w.heap.size ap az cp cz := by subst hW; exact ⟨by go_simp, by go_simp, by go_simp, by go_simp, by go_simp⟩
  clear hW
  refine (specOk_any P _ _ (HV.out.below bW)).mono ?_
  rintro e w1 ⟨rfl, hb1⟩
  have b1 := bW.trans (hb1.mono bW.size)
  have HB1 : Hid (P.BoxAt w1 w.heap.size ap az cp cz) := hbox.below hb1
  have hbox1 := HB1.out
  obtain ⟨x0, x1, x2, x3, x4⟩ := hbox1
  clear hb1 bW hbox
  by_cases hc : P.code = 0
  · have hok := Prof.code_zero.1 hc
    have HOK : Hid P.Ok := hok
    have hx := Prof.not_with HA.out hok
    rw [hc]
    clear hok hc
    go_wp2_with fail
    refine (l2total_any P _ _ (HV.out.below b1) HOK.out.lens).mono ?_
    rintro e w2 ⟨rfl, hb2⟩
    have b2 := b1.trans (hb2.mono b1.size)
    have HB2 : Hid (P.BoxAt w2 w.heap.size ap az cp cz) := HB1.out.below hb2
    have hbox2 := HB2.out
    clear x0 x1 x2 x3 x4 hb2
    obtain ⟨x0, x1, x2, x3, x4⟩ := hbox2
    go_wp2_with fail
    refine (l1in_no _ _ _ _ hx).mono ?_
    rintro e w2b ⟨rfl, hw⟩
    rw [hw]
    clear hw hx
    go_wp2
    go_ret
    exact ⟨ret_int (brakeAns_no HA.out).symm, b2⟩
  · have hc2 : (P.code != 0) = true := by simpa using hc
    clear hc
    go_wp2
    go_ret
    exact ⟨ret_int (brakeAns_no HA.out).symm, b1⟩

theorem specBrakeAt_any (P : Prof) (v : Value) (x : Int) (w : World) (hl : P.Lies w v) :
    Calls Try.prog 21 #[v, .int .i64 x] w fun e w' => e = .returned (.int .i64 (P.brakeAns x)) ∧ Below w.heap.size w w' := by
  by_cases h : P.With x
  · exact specBrakeAt_yes P v x w hl h
  · exact specBrakeAt_no P v x w hl h

set_option maxHeartbeats 2000000 in
theorem specLimitAt_yes (P : Prof) (v : Value) (x : Int) (w : World) (hl : P.Lies w v) (h : P.With x) :
    Calls Try.prog 23 #[v, .int .i64 x] w fun e w' => e = .returned (.int .i64 (P.limitAns x)) ∧ Below w.heap.size w w' := by
  have HA : Hid (P.With x) := h
  have HV : Hid (P.Lies w v) := hl
  obtain ⟨ap, cp, az, cz, rfl, hn, hn', hr2, hr3⟩ := hl
  obtain ⟨hok, g0, g1⟩ := h
  have HOK : Hid P.Ok := hok
  have h1 := hok.counts.1
  have htot := (Prof.total_bounds hok.lens).2
  clear hok
  clear hr2 hr3
  go_enter Try.func23, Try.ntmps23
  go_wp2_with fail
  generalize hW : w.alloc _ = W
  have bW : Below w.heap.size w W := by rw [← hW]; exact (Below.refl _ _).alloc (Nat.le_refl _) _
  have hbox : P.BoxAt W w.heap.size ap az cp cz := by subst hW; exact ⟨by go_simp, by go_simp, by go_simp, by go_simp, by go_simp⟩
  clear hW
  refine (specOk_any P _ _ (HV.out.below bW)).mono ?_
  rintro e w1 ⟨rfl, hb1⟩
  have b1 := bW.trans (hb1.mono bW.size)
  have HB1 : Hid (P.BoxAt w1 w.heap.size ap az cp cz) := hbox.below hb1
  have hbox1 := HB1.out
  obtain ⟨x0, x1, x2, x3, x4⟩ := hbox1
  clear hb1 bW hbox
  rw [Prof.code_ok HOK.out]
  go_wp2_with fail
  refine (l2total_any P _ _ (HV.out.below b1) HOK.out.lens).mono ?_
  rintro e w2 ⟨rfl, hb2⟩
  have b2 := b1.trans (hb2.mono b1.size)
  have HB2 : Hid (P.BoxAt w2 w.heap.size ap az cp cz) := HB1.out.below hb2
  have hbox2 := HB2.out
  clear x0 x1 x2 x3 x4 hb2
  obtain ⟨x0, x1, x2, x3, x4⟩ := hbox2
  go_wp2_with fail
  refine (l1in_yes _ _ _ _ g0 g1).mono ?_
  rintro e w2b ⟨rfl, hw⟩
  rw [hw]
  clear hw
  go_wp2_with fail
  refine (l2over_any P _ x x _ (HV.out.below b2) HOK.out).mono ?_
  rintro e w3 ⟨rfl, hb3⟩
  have b3 := b2.trans (hb3.mono b2.size)
  clear hb3
  go_wp2
  go_ret
  exact ⟨ret_int (limitAns_yes HA.out).symm, b3⟩

set_option maxHeartbeats 2000000 in
theorem specLimitAt_no (P : Prof) (v : Value) (x : Int) (w : World) (hl : P.Lies w v) (h : ¬ P.With x) :
    Calls Try.prog 23 #[v, .int .i64 x] w fun e w' => e = .returned (.int .i64 (P.limitAns x)) ∧ Below w.heap.size w w' := by
  have HA : Hid (¬ P.With x) := h
  have HV : Hid (P.Lies w v) := hl
  obtain ⟨ap, cp, az, cz, rfl, hn, hn', hr2, hr3⟩ := hl
  clear h
  clear hr2 hr3
  go_enter Try.func23, Try.ntmps23
  go_wp2_with fail
  generalize hW : w.alloc _ = W
  have bW : Below w.heap.size w W := by rw [← hW]; exact (Below.refl _ _).alloc (Nat.le_refl _) _
  have hbox : P.BoxAt W w.heap.size ap az cp cz := by subst hW; exact ⟨by go_simp, by go_simp, by go_simp, by go_simp, by go_simp⟩
  clear hW
  refine (specOk_any P _ _ (HV.out.below bW)).mono ?_
  rintro e w1 ⟨rfl, hb1⟩
  have b1 := bW.trans (hb1.mono bW.size)
  have HB1 : Hid (P.BoxAt w1 w.heap.size ap az cp cz) := hbox.below hb1
  have hbox1 := HB1.out
  obtain ⟨x0, x1, x2, x3, x4⟩ := hbox1
  clear hb1 bW hbox
  by_cases hc : P.code = 0
  · have hok := Prof.code_zero.1 hc
    have HOK : Hid P.Ok := hok
    have hx := Prof.not_with HA.out hok
    rw [hc]
    clear hok hc
    go_wp2_with fail
    refine (l2total_any P _ _ (HV.out.below b1) HOK.out.lens).mono ?_
    rintro e w2 ⟨rfl, hb2⟩
    have b2 := b1.trans (hb2.mono b1.size)
    have HB2 : Hid (P.BoxAt w2 w.heap.size ap az cp cz) := HB1.out.below hb2
    have hbox2 := HB2.out
    clear x0 x1 x2 x3 x4 hb2
    obtain ⟨x0, x1, x2, x3, x4⟩ := hbox2
    go_wp2_with fail
    refine (l1in_no _ _ _ _ hx).mono ?_
    rintro e w2b ⟨rfl, hw⟩
    rw [hw]
    clear hw hx
    go_wp2
    go_ret
    exact ⟨ret_int (limitAns_no HA.out).symm, b2⟩
  · have hc2 : (P.code != 0) = true := by simpa using hc
    clear hc
    go_wp2
    go_ret
    exact ⟨ret_int (limitAns_no HA.out).symm, b1⟩

theorem specLimitAt_any (P : Prof) (v : Value) (x : Int) (w : World) (hl : P.Lies w v) :
    Calls Try.prog 23 #[v, .int .i64 x] w fun e w' => e = .returned (.int .i64 (P.limitAns x)) ∧ Below w.heap.size w w' := by
  by_cases h : P.With x
  · exact specLimitAt_yes P v x w hl h
  · exact specLimitAt_no P v x w hl h

set_option maxHeartbeats 2000000 in
theorem specStandAt_no (P : Prof) (v : Value) (x u : Int) (w : World) (hl : P.Lies w v) (h : ¬ P.With x) :
    Calls Try.prog 25 #[v, .int .i64 x, .int .i64 u] w fun e w' => e = .returned (.int .i64 (P.standAns x u)) ∧ Below w.heap.size w w' := by
  have HA : Hid (¬ P.With x) := h
  have HV : Hid (P.Lies w v) := hl
  obtain ⟨ap, cp, az, cz, rfl, hn, hn', hr2, hr3⟩ := hl
  clear h
  clear hr2 hr3
  go_enter Try.func25, Try.ntmps25
  go_wp2_with fail
  generalize hW : w.alloc _ = W
  have bW : Below w.heap.size w W := by rw [← hW]; exact (Below.refl _ _).alloc (Nat.le_refl _) _
  have hbox : P.BoxAt W w.heap.size ap az cp cz := by subst hW; exact ⟨by go_simp, by go_simp, by go_simp, by go_simp, by go_simp⟩
  clear hW
  refine (specOk_any P _ _ (HV.out.below bW)).mono ?_
  rintro e w1 ⟨rfl, hb1⟩
  have b1 := bW.trans (hb1.mono bW.size)
  have HB1 : Hid (P.BoxAt w1 w.heap.size ap az cp cz) := hbox.below hb1
  have hbox1 := HB1.out
  obtain ⟨x0, x1, x2, x3, x4⟩ := hbox1
  clear hb1 bW hbox
  by_cases hc : P.code = 0
  · have hok := Prof.code_zero.1 hc
    have HOK : Hid P.Ok := hok
    have hx := Prof.not_with HA.out hok
    rw [hc]
    clear hok hc
    go_wp2_with fail
    refine (l2total_any P _ _ (HV.out.below b1) HOK.out.lens).mono ?_
    rintro e w2 ⟨rfl, hb2⟩
    have b2 := b1.trans (hb2.mono b1.size)
    have HB2 : Hid (P.BoxAt w2 w.heap.size ap az cp cz) := HB1.out.below hb2
    have hbox2 := HB2.out
    clear x0 x1 x2 x3 x4 hb2
    obtain ⟨x0, x1, x2, x3, x4⟩ := hbox2
    go_wp2_with fail
    refine (l1in_no _ _ _ _ hx).mono ?_
    rintro e w2b ⟨rfl, hw⟩
    rw [hw]
    clear hw hx
    go_wp2
    go_ret
    exact ⟨ret_int (standAns_no HA.out).symm, b2⟩
  · have hc2 : (P.code != 0) = true := by simpa using hc
    clear hc
    go_wp2
    go_ret
    exact ⟨ret_int (standAns_no HA.out).symm, b1⟩

set_option maxHeartbeats 2000000 in
theorem specStandAt_fast (P : Prof) (v : Value) (x u : Int) (w : World) (hl : P.Lies w v) (h : P.With x) (hu : u < 0 ∨ 10000 < u) :
    Calls Try.prog 25 #[v, .int .i64 x, .int .i64 u] w fun e w' => e = .returned (.int .i64 (P.standAns x u)) ∧ Below w.heap.size w w' := by
  have HV : Hid (P.Lies w v) := hl
  obtain ⟨ap, cp, az, cz, rfl, hn, hn', hr2, hr3⟩ := hl
  obtain ⟨hok, g0, g1⟩ := h
  have HOK : Hid P.Ok := hok
  have h1 := hok.counts.1
  have htot := (Prof.total_bounds hok.lens).2
  clear hok
  clear hr2 hr3
  go_enter Try.func25, Try.ntmps25
  go_wp2_with fail
  generalize hW : w.alloc _ = W
  have bW : Below w.heap.size w W := by rw [← hW]; exact (Below.refl _ _).alloc (Nat.le_refl _) _
  have hbox : P.BoxAt W w.heap.size ap az cp cz := by subst hW; exact ⟨by go_simp, by go_simp, by go_simp, by go_simp, by go_simp⟩
  clear hW
  refine (specOk_any P _ _ (HV.out.below bW)).mono ?_
  rintro e w1 ⟨rfl, hb1⟩
  have b1 := bW.trans (hb1.mono bW.size)
  have HB1 : Hid (P.BoxAt w1 w.heap.size ap az cp cz) := hbox.below hb1
  have hbox1 := HB1.out
  obtain ⟨x0, x1, x2, x3, x4⟩ := hbox1
  clear hb1 bW hbox
  rw [Prof.code_ok HOK.out]
  go_wp2_with fail
  refine (l2total_any P _ _ (HV.out.below b1) HOK.out.lens).mono ?_
  rintro e w2 ⟨rfl, hb2⟩
  have b2 := b1.trans (hb2.mono b1.size)
  have HB2 : Hid (P.BoxAt w2 w.heap.size ap az cp cz) := HB1.out.below hb2
  have hbox2 := HB2.out
  clear x0 x1 x2 x3 x4 hb2
  obtain ⟨x0, x1, x2, x3, x4⟩ := hbox2
  go_wp2_with fail
  refine (l1in_yes _ _ _ _ g0 g1).mono ?_
  rintro e w2b ⟨rfl, hw⟩
  rw [hw]
  clear hw
  go_wp2_with fail
  refine (l1speeds_no _ _ _ (by omega)).mono ?_
  rintro e w2b ⟨rfl, hw⟩
  rw [hw]
  clear hw
  go_wp2
  go_ret
  exact ⟨ret_int (standAns_no' hu).symm, b2⟩

set_option maxHeartbeats 4000000 in
theorem specStandAt_yes (P : Prof) (v : Value) (x u : Int) (w : World) (hl : P.Lies w v) (h : P.With x) (hu0 : 0 ≤ u) (hu1 : u ≤ 10000) :
    Calls Try.prog 25 #[v, .int .i64 x, .int .i64 u] w fun e w' => e = .returned (.int .i64 (P.standAns x u)) ∧ Below w.heap.size w w' := by
  have HA : Hid (P.With x) := h
  have HV : Hid (P.Lies w v) := hl
  obtain ⟨ap, cp, az, cz, rfl, hn, hn', hr2, hr3⟩ := hl
  obtain ⟨hok, g0, g1⟩ := h
  have HOK : Hid P.Ok := hok
  have h1 := hok.counts.1
  have htot := (Prof.total_bounds hok.lens).2
  clear hok
  clear hr2 hr3
  go_enter Try.func25, Try.ntmps25
  go_wp2_with fail
  generalize hW : w.alloc _ = W
  have bW : Below w.heap.size w W := by rw [← hW]; exact (Below.refl _ _).alloc (Nat.le_refl _) _
  have hbox : P.BoxAt W w.heap.size ap az cp cz := by subst hW; exact ⟨by go_simp, by go_simp, by go_simp, by go_simp, by go_simp⟩
  clear hW
  refine (specOk_any P _ _ (HV.out.below bW)).mono ?_
  rintro e w1 ⟨rfl, hb1⟩
  have b1 := bW.trans (hb1.mono bW.size)
  have HB1 : Hid (P.BoxAt w1 w.heap.size ap az cp cz) := hbox.below hb1
  have hbox1 := HB1.out
  obtain ⟨x0, x1, x2, x3, x4⟩ := hbox1
  clear hb1 bW hbox
  rw [Prof.code_ok HOK.out]
  go_wp2_with fail
  refine (l2total_any P _ _ (HV.out.below b1) HOK.out.lens).mono ?_
  rintro e w2 ⟨rfl, hb2⟩
  have b2 := b1.trans (hb2.mono b1.size)
  have HB2 : Hid (P.BoxAt w2 w.heap.size ap az cp cz) := HB1.out.below hb2
  have hbox2 := HB2.out
  clear x0 x1 x2 x3 x4 hb2
  obtain ⟨x0, x1, x2, x3, x4⟩ := hbox2
  go_wp2_with fail
  refine (l1in_yes _ _ _ _ g0 g1).mono ?_
  rintro e w2b ⟨rfl, hw⟩
  rw [hw]
  clear hw
  go_wp2_with fail
  refine (l1speeds_yes _ _ _ (by omega) (by omega) (by omega) (by omega)).mono ?_
  rintro e w2b ⟨rfl, hw⟩
  rw [hw]
  clear hw
  go_wp2_with fail
  refine (l2total_any P _ _ (HV.out.below b2) HOK.out.lens).mono ?_
  rintro e w3 ⟨rfl, hb3⟩
  have b3 := b2.trans (hb3.mono b2.size)
  have HB3 : Hid (P.BoxAt w3 w.heap.size ap az cp cz) := HB2.out.below hb3
  clear x0 x1 x2 x3 x4 hb3 b1 b2 HB1 HB2
  go_wp2
  go_loopw [1, 2] (fun sx sv wr => ∃ y z : Int, sx = .int .i64 y ∧ sv = .int .i64 z ∧ 0 ≤ y ∧ y ≤ P.total ∧ 0 ≤ z ∧ z ≤ 10000 ∧ Hid (P.stand y z = P.stand x u) ∧ Hid (P.BoxAt wr w.heap.size ap az cp cz) ∧ Below w.heap.size w wr) (fun _ sv _ => (intOf sv).toNat)
  case atStart => exact ⟨x, u, rfl, rfl, g0, g1, hu0, hu1, rfl, HB3.out, b3⟩
  case round =>
    clear b3 HB3
    obtain ⟨y, z, rfl, rfl, hy0, hy1, hz0, hz1, HE, HBX, hbel⟩ := hrel
    by_cases hlt : 0 < z
    · have hr := HOK.out.rate y
      obtain ⟨hr0, hr1⟩ := hr
      have hls := less_lt (v := z) (b := P.rate y) (by omega) (by omega)
      obtain ⟨hl0, hl1⟩ := less_bounds (v := z) (b := P.rate y) (by omega) (by omega)
      have HS : Hid (P.stand y z = if P.total < y + less z (P.rate y) then -1 else P.stand (y + less z (P.rate y)) (less z (P.rate y))) := P.stand_step (fun a => by have := HOK.out.rate a; omega) hlt
      have hboxr := HBX.out
      obtain ⟨x0, x1, x2, x3, x4⟩ := hboxr
      go_wp2_with fail
      refine (l2rate_any P _ y _ (HV.out.below hbel) HOK.out.lens h1).mono ?_
      rintro e w5 ⟨rfl, hb5⟩
      have b5 := hbel.trans (hb5.mono hbel.size)
      have HB5 : Hid (P.BoxAt w5 w.heap.size ap az cp cz) := HBX.out.below hb5
      clear x0 x1 x2 x3 x4 hb5
      go_wp2_with fail
      refine (l2less_any _ _ _ (by omega) (by omega) (by omega) (by omega)).mono ?_
      rintro e w6 ⟨rfl, hw⟩
      rw [hw]
      clear hw
      by_cases ht : P.total < y + less z (P.rate y)
      · have HF : Hid (P.stand x u = -1) := by show _ = _; rw [← HE.out, HS.out, if_pos ht]
        go_wp2
        go_ret
        exact ⟨ret_int ((standAns_yes HA.out hu0 hu1).trans HF.out).symm, b5⟩
      · have HF : Hid (P.stand (y + less z (P.rate y)) (less z (P.rate y)) = P.stand x u) := by show _ = _; rw [← HE.out, HS.out, if_neg ht]
        go_wp2
        go_roundw
        case rel => exact ⟨y + less z (P.rate y), less z (P.rate y), by go_num, rfl, by omega, by omega, by omega, by omega, HF.out, HB5.out, b5⟩
        case measure => simp [intOf]; omega
    · have e : z = 0 := by omega
      subst e
      have HF : Hid (P.stand x u = y) := by show _ = _; rw [← HE.out]; exact P.stand_zero (by omega)
      go_wp2
      go_ret
      exact ⟨ret_int ((standAns_yes HA.out hu0 hu1).trans HF.out).symm, hbel⟩

theorem specStandAt_any (P : Prof) (v : Value) (x u : Int) (w : World) (hl : P.Lies w v) :
    Calls Try.prog 25 #[v, .int .i64 x, .int .i64 u] w fun e w' => e = .returned (.int .i64 (P.standAns x u)) ∧ Below w.heap.size w w' := by
  by_cases h : P.With x
  · by_cases g : 0 ≤ u ∧ u ≤ 10000
    · exact specStandAt_yes P v x u w hl h g.1 g.2
    · exact specStandAt_fast P v x u w hl h (by omega)
  · exact specStandAt_no P v x u w hl h

end Go.Proofs.Yteodefmpkljedab
