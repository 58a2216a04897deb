/-
  The models of BrakeAt, LimitAt and StandAt.
-/
import Derived.Test.YteodefmpkljedaaSpecOk
import Derived.Test.YteodefmpkljedaaImplOk2
namespace Go.Proofs.Yteodefmpkljedaa
open Go.RowKit Go.Sort
set_option linter.unusedVariables false

/-- The answers of chapter 2. -/
def Prof.brakeAns (P : Prof) (x : Int) : Int := if P.code = 0 ∧ 0 ≤ x ∧ x ≤ P.total then P.rate x else -1
def Prof.limitAns (P : Prof) (x : Int) : Int := if P.code = 0 ∧ 0 ≤ x ∧ x ≤ P.total then P.over x x else -1
def Prof.standAns (P : Prof) (x v : Int) : Int := if (P.code = 0 ∧ 0 ≤ x ∧ x ≤ P.total) ∧ 0 ≤ v ∧ v ≤ 10000 then P.stand x v else -1
theorem Prof.with_iff {P : Prof} {x : Int} : (P.code = 0 ∧ 0 ≤ x ∧ x ≤ P.total) ↔ P.With x := by unfold Prof.With; rw [Prof.code_zero]
theorem brakeAns_yes {P : Prof} {x : Int} (h : P.With x) : P.brakeAns x = P.rate x := if_pos (Prof.with_iff.2 h)
theorem brakeAns_no {P : Prof} {x : Int} (h : ¬ P.With x) : P.brakeAns x = -1 := if_neg (fun c => h (Prof.with_iff.1 c))
theorem limitAns_yes {P : Prof} {x : Int} (h : P.With x) : P.limitAns x = P.over x x := if_pos (Prof.with_iff.2 h)
theorem limitAns_no {P : Prof} {x : Int} (h : ¬ P.With x) : P.limitAns x = -1 := if_neg (fun c => h (Prof.with_iff.1 c))
theorem standAns_yes {P : Prof} {x v : Int} (h : P.With x) (g : 0 ≤ v) (k : v ≤ 10000) : P.standAns x v = P.stand x v := if_pos ⟨Prof.with_iff.2 h, g, k⟩
theorem standAns_no {P : Prof} {x v : Int} (h : ¬ P.With x) : P.standAns x v = -1 := if_neg (fun c => h (Prof.with_iff.1 c.1))
theorem standAns_no' {P : Prof} {x v : Int} (h : v < 0 ∨ 10000 < v) : P.standAns x v = -1 := if_neg (fun c => by omega)
theorem Prof.not_with {P : Prof} {x : Int} (h : ¬ P.With x) (hok : P.Ok) : x < 0 ∨ P.total < x := by
  unfold Prof.With at h
  rcases Int.lt_or_le x 0 with c | c
  · exact Or.inl c
  · rcases Int.lt_or_le P.total x with d | d
    · exact Or.inr d
    · exact absurd ⟨hok, c, d⟩ h

set_option maxHeartbeats 2000000 in
theorem specBrakeAt_yes (P : Prof) (v : Value) (x : Int) (w : World) (hl : P.Lies w v) (h : P.With x) :
    Calls Try.prog 38 #[v, .int .i64 x] w fun e w' => e = .returned (.int .i64 (P.brakeAns x)) ∧ Below w.heap.size w w' := by
  have HA : Hid (P.With x) := h
  have HV : Hid (P.Lies w v) := hl
  obtain ⟨ap, cp, az, cz, rfl, hn, hn', hr2, hr3⟩ := hl
  obtain ⟨hok, g0, g1⟩ := h
  have HOK : Hid P.Ok := hok
  have h1 := hok.counts.1
  have htot := (Prof.total_bounds hok.lens).2
  clear hok
  clear hr2 hr3
  go_enter Try.func38, Try.ntmps38
  go_wp2_with fail
  generalize hW : w.alloc _ = W
  have bW : Below w.heap.size w W := by rw [← hW]; exact (Below.refl _ _).alloc (Nat.le_refl _) _
  have hbox : P.BoxAt W w.heap.size ap az cp cz := by subst hW; exact ⟨by go_simp, by go_simp, by go_simp, by go_simp, by go_simp⟩
  clear hW
  refine (specOk_any P _ _ (HV.out.below bW)).mono ?_
  rintro e w1 ⟨rfl, hb1⟩
  have b1 := bW.trans (hb1.mono bW.size)
  have HB1 : Hid (P.BoxAt w1 w.heap.size ap az cp cz) := hbox.below hb1
  have hbox1 := HB1.out
  obtain ⟨x0, x1, x2, x3, x4⟩ := hbox1
  clear hb1 bW hbox
  rw [Prof.code_ok HOK.out]
  go_wp2_with fail
  refine (l2total_any P _ _ (HV.out.below b1) HOK.out.lens).mono ?_
  rintro e w2 ⟨rfl, hb2⟩
  have b2 := b1.trans (hb2.mono b1.size)
  have HB2 : Hid (P.BoxAt w2 w.heap.size ap az cp cz) := HB1.out.below hb2
  have hbox2 := HB2.out
  clear x0 x1 x2 x3 x4 hb2
  obtain ⟨x0, x1, x2, x3, x4⟩ := hbox2
  go_wp2_with fail
  refine (l1in_yes _ _ _ _ g0 g1).mono ?_
  rintro e w2b ⟨rfl, hw⟩
  rw [hw]
  clear hw
  go_wp2_with fail
  refine (l2rate_any P _ x _ (HV.out.below b2) HOK.out.lens h1).mono ?_
  rintro e w3 ⟨rfl, hb3⟩
  have b3 := b2.trans (hb3.mono b2.size)
  clear hb3
  go_wp2
  go_ret
  exact ⟨ret_int (brakeAns_yes HA.out).symm, b3⟩

set_option maxHeartbeats 2000000 in
theorem specBrakeAt_no (P : Prof) (v : Value) (x : Int) (w : World) (hl : P.Lies w v) (h : ¬ P.With x) :
    Calls Try.prog 38 #[v, .int .i64 x] w fun e w' => e = .returned (.int .i64 (P.brakeAns x)) ∧ Below w.heap.size w w' := by
  have HA : Hid (¬ P.With x) := h
  have HV : Hid (P.Lies w v) := hl
  obtain ⟨ap, cp, az, cz, rfl, hn, hn', hr2, hr3⟩ := hl
  clear h
  clear hr2 hr3
  go_enter Try.func38, Try.ntmps38
  go_wp2_with fail
  generalize hW : w.alloc _ = W
  have bW : Below w.heap.size w W := by rw [← hW]; exact (Below.refl _ _).alloc (Nat.le_refl _) _
  have hbox : P.BoxAt W w.heap.size ap az cp cz := by subst hW; exact ⟨by go_simp, by go_simp, by go_simp, by go_simp, by go_simp⟩
  clear hW
  refine (specOk_any P _ _ (HV.out.below bW)).mono ?_
  rintro e w1 ⟨rfl, hb1⟩
  have b1 := bW.trans (hb1.mono bW.size)
  have HB1 : Hid (P.BoxAt w1 w.heap.size ap az cp cz) := hbox.below hb1
  have hbox1 := HB1.out
  obtain ⟨x0, x1, x2, x3, x4⟩ := hbox1
  clear hb1 bW hbox
  by_cases hc : P.code = 0
  · have hok := Prof.code_zero.1 hc
    have HOK : Hid P.Ok := hok
    have hx := Prof.not_with HA.out hok
    rw [hc]
    clear hok hc
    go_wp2_with fail
    refine (l2total_any P _ _ (HV.out.below b1) HOK.out.lens).mono ?_
    rintro e w2 ⟨rfl, hb2⟩
    have b2 := b1.trans (hb2.mono b1.size)
    have HB2 : Hid (P.BoxAt w2 w.heap.size ap az cp cz) := HB1.out.below hb2
    have hbox2 := HB2.out
    clear x0 x1 x2 x3 x4 hb2
    obtain ⟨x0, x1, x2, x3, x4⟩ := hbox2
    go_wp2_with fail
    refine (l1in_no _ _ _ _ hx).mono ?_
    rintro e w2b ⟨rfl, hw⟩
    rw [hw]
    clear hw hx
    go_wp2
    go_ret
    exact ⟨ret_int (brakeAns_no HA.out).symm, b2⟩
  · have hc2 : (P.code != 0) = true := by simpa using hc
    clear hc
    go_wp2
    go_ret
    exact ⟨ret_int (brakeAns_no HA.out).symm, b1⟩

theorem specBrakeAt_any (P : Prof) (v : Value) (x : Int) (w : World) (hl : P.Lies w v) :
    Calls Try.prog 38 #[v, .int .i64 x] w fun e w' => e = .returned (.int .i64 (P.brakeAns x)) ∧ Below w.heap.size w w' := by
  by_cases h : P.With x
  · exact specBrakeAt_yes P v x w hl h
  · exact specBrakeAt_no P v x w hl h

end Go.Proofs.Yteodefmpkljedaa
