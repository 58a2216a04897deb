/-
  The models of Safe and MostNow.
-/
import Derived.Test.YteodefmpkljedaaSpecSafe
namespace Go.Proofs.Yteodefmpkljedaa
open Go.RowKit Go.Sort
set_option linter.unusedVariables false

/-- A right profile, a place of it, a speed. -/
def Prof.good (P : Prof) (x u : Int) : Bool := decide (P.code = 0 ∧ 0 ≤ x ∧ x ≤ P.total ∧ 0 ≤ u ∧ u ≤ 10000)
theorem Prof.good_yes {P : Prof} {x u : Int} (h : P.With x) (g : 0 ≤ u) (k : u ≤ 10000) : P.good x u = true := by
  unfold Prof.good
  simp only [decide_eq_true_eq]
  exact ⟨Prof.code_ok h.1, h.2.1, h.2.2, g, k⟩
theorem Prof.good_no {P : Prof} {x u : Int} (h : ¬ P.With x) : P.good x u = false := by
  unfold Prof.good
  simp only [decide_eq_false_iff_not]
  rintro ⟨a, b, c, _⟩
  exact h ⟨Prof.code_zero.1 a, b, c⟩
theorem Prof.good_fast {P : Prof} {x u : Int} (h : u < 0 ∨ 10000 < u) : P.good x u = false := by
  unfold Prof.good
  simp only [decide_eq_false_iff_not]
  rintro ⟨_, _, _, d, e⟩
  omega
theorem Prof.good_with {P : Prof} {x u : Int} (h : P.good x u = true) : P.With x ∧ 0 ≤ u ∧ u ≤ 10000 := by
  unfold Prof.good at h
  simp only [decide_eq_true_eq] at h
  exact ⟨⟨Prof.code_zero.1 h.1, h.2.1, h.2.2.1⟩, h.2.2.2⟩

set_option maxHeartbeats 2000000 in
theorem l3good_any (P : Prof) (v : Value) (x u : Int) (w : World) (hl : P.Lies w v) :
    Calls Try.prog 50 #[v, .int .i64 x, .int .i64 u] w fun e w' => e = .returned (.bool (P.good x u)) ∧ Below w.heap.size w w' := by
  have HV : Hid (P.Lies w v) := hl
  obtain ⟨ap, cp, az, cz, rfl, hn, hn', hr2, hr3⟩ := hl
  clear hr2 hr3
  go_enter Try.func50, Try.ntmps50
  go_wp2_with fail
  generalize hW : w.alloc _ = W
  have bW : Below w.heap.size w W := by rw [← hW]; exact (Below.refl _ _).alloc (Nat.le_refl _) _
  have hbox : P.BoxAt W w.heap.size ap az cp cz := by subst hW; exact ⟨by go_simp, by go_simp, by go_simp, by go_simp, by go_simp⟩
  clear hW
  refine (specOk_any P _ _ (HV.out.below bW)).mono ?_
  rintro e w1 ⟨rfl, hb1⟩
  have b1 := bW.trans (hb1.mono bW.size)
  have hbox1 := hbox.below hb1
  obtain ⟨x0, x1, x2, x3, x4⟩ := hbox1
  clear hb1 bW hbox
  by_cases hc : P.code = 0
  · have hok := Prof.code_zero.1 hc
    have HOK : Hid P.Ok := hok
    rw [hc]
    clear hc
    go_wp2_with fail
    refine (l2total_any P _ _ (HV.out.below b1) HOK.out.lens).mono ?_
    rintro e w2 ⟨rfl, hb2⟩
    have b2 := b1.trans (hb2.mono b1.size)
    clear x0 x1 x2 x3 x4 hb2
    by_cases hx : 0 ≤ x ∧ x ≤ P.total
    · by_cases hu : 0 ≤ u ∧ u ≤ 10000
      · have HG : Hid (P.good x u = true) := Prof.good_yes ⟨HOK.out, hx⟩ hu.1 hu.2
        go_wp2_with (go_at_call 63; refine (l1in_yes _ _ _ _ (by omega) (by omega)).mono ?_; rintro e w3 ⟨rfl, rfl⟩)
        go_ret
        exact ⟨ret_boolB (by rw [HG.out]), b2⟩
      · have HG : Hid (P.good x u = false) := Prof.good_fast (by omega)
        go_wp2_with (go_at_call 63; first | (refine (l1in_yes _ _ _ _ (by omega) (by omega)).mono ?_; rintro e w3 ⟨rfl, rfl⟩) | (refine (l1in_no _ _ _ _ (by omega)).mono ?_; rintro e w3 ⟨rfl, rfl⟩))
        go_ret
        exact ⟨ret_boolB (by rw [HG.out]), b2⟩
    · have HG : Hid (P.good x u = false) := Prof.good_no (fun h => hx ⟨h.2.1, h.2.2⟩)
      go_wp2_with (go_at_call 63; refine (l1in_no _ _ _ _ (by omega)).mono ?_; rintro e w3 ⟨rfl, rfl⟩)
      go_ret
      exact ⟨ret_boolB (by rw [HG.out]), b2⟩
  · have hc' : (P.code == 0) = false := by simpa using hc
    have HG : Hid (P.good x u = false) := Prof.good_no (fun h => hc (Prof.code_ok h.1))
    clear hc
    go_wp2
    go_ret
    exact ⟨ret_boolB (by rw [HG.out]), b1⟩

set_option maxHeartbeats 2000000 in
theorem specSafe_any (P : Prof) (v : Value) (x u : Int) (w : World) (hl : P.Lies w v) :
    Calls Try.prog 29 #[v, .int .i64 x, .int .i64 u] w fun e w' => e = .returned (.bool (P.safeAns x u)) ∧ Below w.heap.size w w' := by
  have HV : Hid (P.Lies w v) := hl
  obtain ⟨ap, cp, az, cz, rfl, hn, hn', hr2, hr3⟩ := hl
  clear hr2 hr3
  go_enter Try.func29, Try.ntmps29
  go_wp2_with fail
  generalize hW : w.alloc _ = W
  have bW : Below w.heap.size w W := by rw [← hW]; exact (Below.refl _ _).alloc (Nat.le_refl _) _
  have hbox : P.BoxAt W w.heap.size ap az cp cz := by subst hW; exact ⟨by go_simp, by go_simp, by go_simp, by go_simp, by go_simp⟩
  clear hW
  refine (l3good_any P _ x u _ (HV.out.below bW)).mono ?_
  rintro e w1 ⟨rfl, hb1⟩
  have b1 := bW.trans (hb1.mono bW.size)
  have hbox1 := hbox.below hb1
  obtain ⟨x0, x1, x2, x3, x4⟩ := hbox1
  clear hb1 bW hbox
  have HS : Hid (P.safeAns x u = (P.good x u && P.safe 0 x u)) := rfl
  cases hg : P.good x u with
  | true =>
    have HG : Hid (P.good x u = true) := hg
    obtain ⟨⟨hok, g0, g1⟩, g2, g3⟩ := Prof.good_with hg
    have HOK : Hid P.Ok := hok
    have htot := (Prof.total_bounds hok.lens).2
    clear hg hok
    go_wp2_with fail
    refine (l3safe_any P _ x u _ (HV.out.below b1) HOK.out g0 (by omega) g2 g3).mono ?_
    rintro e w2 ⟨rfl, hb2⟩
    have b2 := b1.trans (hb2.mono b1.size)
    clear hb2
    go_wp2
    go_ret
    exact ⟨ret_boolB (by rw [HS.out, HG.out]; simp), b2⟩
  | false =>
    have HG : Hid (P.good x u = false) := hg
    clear hg
    go_wp2
    go_ret
    exact ⟨ret_boolB (by rw [HS.out, HG.out]; simp), b1⟩

set_option maxHeartbeats 2000000 in
theorem l3most_any (P : Prof) (v : Value) (x : Int) (w : World) (hl : P.Lies w v) (hok : P.Ok) (hx0 : 0 ≤ x) (hx1 : x ≤ 100000000) :
    Calls Try.prog 69 #[v, .int .i64 x] w fun e w' => e = .returned (.int .i64 (P.most x)) ∧ Below w.heap.size w w' := by
  have HV : Hid (P.Lies w v) := hl
  have HOK : Hid P.Ok := hok
  obtain ⟨ap, cp, az, cz, rfl, hn, hn', hr2, hr3⟩ := hl
  clear hr2 hr3 hok
  go_enter Try.func69, Try.ntmps69
  go_wp2
  go_loopw [5] (fun sv wr => ∃ z : Int, sv = .int .i64 z ∧ 0 ≤ z ∧ z ≤ 10001 ∧ Hid (∀ u, 0 ≤ u → u < z → P.safe 0 x u = true) ∧ Hid (P.BoxAt wr w.heap.size ap az cp cz) ∧ Below w.heap.size w wr) (fun sv _ => (10001 - intOf sv).toNat)
  case atStart =>
    refine ⟨0, rfl, by omega, by omega, fun u a b => by omega, ?_, (Below.refl _ _).alloc (Nat.le_refl _) _⟩
    show Prof.BoxAt _ _ _ _ _ _ _
    refine ⟨?_, ?_, ?_, ?_, ?_⟩ <;> go_simp
  case round =>
    obtain ⟨z, rfl, hz0, hz1, HE, HBX, hbel⟩ := hrel
    by_cases hlt : z ≤ 10000
    · have hboxr := HBX.out
      obtain ⟨x0, x1, x2, x3, x4⟩ := hboxr
      go_wp2_with fail
      refine (l3safe_any P _ x z _ (HV.out.below hbel) HOK.out hx0 hx1 hz0 hlt).mono ?_
      rintro e w2 ⟨rfl, hb2⟩
      have b2 := hbel.trans (hb2.mono hbel.size)
      have HB2 : Hid (P.BoxAt w2 w.heap.size ap az cp cz) := HBX.out.below hb2
      clear x0 x1 x2 x3 x4 hb2 HBX
      cases hs : P.safe 0 x z with
      | true =>
        have HS : Hid (P.safe 0 x z = true) := hs
        clear hs
        go_wp2
        go_roundw
        case rel =>
          refine ⟨z + 1, by go_num, by omega, by omega, fun u a b => ?_, HB2.out, b2⟩
          by_cases d : u = z
          · subst d; exact HS.out
          · exact HE.out u a (by omega)
        case measure => simp [intOf]; omega
      | false =>
        have HS : Hid (P.safe 0 x z = false) := hs
        clear hs
        go_wp2
        go_ret
        refine ⟨ret_int (MostIs.unique (P := P) (x := x) ⟨by omega, by omega, fun u a b => HE.out u a (by omega), fun _ => ?_⟩ (P.most_is x)), b2⟩
        rw [show z - 1 + 1 = z by omega]
        exact HS.out
    · have e : z = 10001 := by omega
      subst e
      go_wp2
      go_ret
      exact ⟨ret_int (MostIs.unique (P := P) (x := x) ⟨by omega, by omega, fun u a b => HE.out u a (by omega), fun c => by omega⟩ (P.most_is x)), hbel⟩

set_option maxHeartbeats 2000000 in
theorem specMostNow_any (P : Prof) (v : Value) (x : Int) (w : World) (hl : P.Lies w v) :
    Calls Try.prog 30 #[v, .int .i64 x] w fun e w' => e = .returned (.int .i64 (P.mostAns x)) ∧ Below w.heap.size w w' := by
  have HV : Hid (P.Lies w v) := hl
  obtain ⟨ap, cp, az, cz, rfl, hn, hn', hr2, hr3⟩ := hl
  clear hr2 hr3
  go_enter Try.func30, Try.ntmps30
  go_wp2_with fail
  generalize hW : w.alloc _ = W
  have bW : Below w.heap.size w W := by rw [← hW]; exact (Below.refl _ _).alloc (Nat.le_refl _) _
  have hbox : P.BoxAt W w.heap.size ap az cp cz := by subst hW; exact ⟨by go_simp, by go_simp, by go_simp, by go_simp, by go_simp⟩
  clear hW
  refine (l3good_any P _ x 0 _ (HV.out.below bW)).mono ?_
  rintro e w1 ⟨rfl, hb1⟩
  have b1 := bW.trans (hb1.mono bW.size)
  have hbox1 := hbox.below hb1
  obtain ⟨x0, x1, x2, x3, x4⟩ := hbox1
  clear hb1 bW hbox
  by_cases h : P.With x
  · have HE : Hid (P.mostAns x = P.most x) := if_pos (Prof.with_iff.2 h)
    have HOK : Hid P.Ok := h.1
    have htot := (Prof.total_bounds h.1.lens).2
    obtain ⟨_, g0, g1⟩ := h
    rw [Prof.good_yes ⟨HOK.out, g0, g1⟩ (Int.le_refl 0) (by omega)]
    go_wp2_with fail
    refine (l3most_any P _ x _ (HV.out.below b1) HOK.out g0 (by omega)).mono ?_
    rintro e w2 ⟨rfl, hb2⟩
    have b2 := b1.trans (hb2.mono b1.size)
    clear hb2
    go_wp2
    go_ret
    exact ⟨ret_int HE.out.symm, b2⟩
  · have HE : Hid (P.mostAns x = -1) := if_neg (fun c => h (Prof.with_iff.1 c))
    rw [Prof.good_no h]
    clear h
    go_wp2
    go_ret
    exact ⟨ret_int HE.out.symm, b1⟩

end Go.Proofs.Yteodefmpkljedaa
