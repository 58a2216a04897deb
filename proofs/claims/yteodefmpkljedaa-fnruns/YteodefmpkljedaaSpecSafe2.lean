/-
  The models of chapter 3: what is safe, the greatest speed.
  The models of Safe and MostNow.
-/
import Derived.Test.YteodefmpkljedaaSpecAt
import Derived.Test.YteodefmpkljedaaWatch
namespace Go.Proofs.Yteodefmpkljedaa
open Go.RowKit Go.Sort
set_option linter.unusedVariables false

theorem ret_boolB {a b : Bool} (h : a = b) : Ending.returned (.bool a) = .returned (.bool b) := by rw [h]

set_option maxHeartbeats 2000000 in
theorem l3may_any (P : Prof) (v : Value) (x u : Int) (w : World) (hl : P.Lies w v) (hok : P.Ok) (hx0 : 0 ≤ x) (hx1 : x ≤ 1000000000) (hu0 : 0 ≤ u) (hu1 : u ≤ 10000) :
    Calls Try.prog 87 #[v, .int .i64 x, .int .i64 u] w fun e w' => e = .returned (.bool (P.may x u)) ∧ Below w.heap.size w w' := by
  have HV : Hid (P.Lies w v) := hl
  have HOK : Hid P.Ok := hok
  obtain ⟨ap, cp, az, cz, rfl, hn, hn', hr2, hr3⟩ := hl
  clear hr2 hr3 hok
  by_cases c : u = 0
  · subst c
    have HE : Hid (P.may x 0 = decide (x ≤ P.fin)) := by show _ = _; unfold Prof.may; rw [if_pos rfl]
    go_enter Try.func87, Try.ntmps87
    go_wp2
    go_ret
    exact ⟨ret_boolB HE.out.symm, (Below.refl _ _).alloc (Nat.le_refl _) _⟩
  · have c' : (u == 0) = false := by simpa using c
    by_cases d : x + u ≤ P.fin
    · have HE : Hid (P.may x u = decide (u ≤ P.over x (x + u))) := by show _ = _; unfold Prof.may; rw [if_neg c]; simp [d]
      go_enter Try.func87, Try.ntmps87
      go_wp2_with fail
      refine (l2over_any P _ x (x + u) _ (HV.out.below ((Below.refl _ _).alloc (Nat.le_refl _) _)) HOK.out).mono ?_
      rintro e w1 ⟨rfl, hb1⟩
      go_wp2
      go_ret
      exact ⟨ret_boolB (by rw [HE.out]), ((Below.refl _ _).alloc (Nat.le_refl _) _).trans (hb1.mono (by simp))⟩
    · have d' : decide (x + u ≤ P.fin) = false := by simpa using d
      have HE : Hid (P.may x u = false) := by show _ = _; unfold Prof.may; rw [if_neg c]; simp [d]
      go_enter Try.func87, Try.ntmps87
      go_wp2
      go_ret
      exact ⟨ret_boolB HE.out.symm, (Below.refl _ _).alloc (Nat.le_refl _) _⟩

set_option maxHeartbeats 4000000 in
theorem l3safe_any (P : Prof) (v : Value) (x u : Int) (w : World) (hl : P.Lies w v) (hok : P.Ok) (hx0 : 0 ≤ x) (hx1 : x ≤ 100000000) (hu0 : 0 ≤ u) (hu1 : u ≤ 10000) :
    Calls Try.prog 51 #[v, .int .i64 x, .int .i64 u] w fun e w' => e = .returned (.bool (P.safe 0 x u)) ∧ Below w.heap.size w w' := by
  have HV : Hid (P.Lies w v) := hl
  have HOK : Hid P.Ok := hok
  have h1 := hok.counts.1
  obtain ⟨d0, d1⟩ := hok.delay
  have hfin := hok.fin.2
  have htot := (Prof.total_bounds hok.lens).2
  obtain ⟨ap, cp, az, cz, rfl, hn, hn', hr2, hr3⟩ := hl
  clear hr2 hr3 hok
  go_enter Try.func51, Try.ntmps51
  go_wp2
  go_loopw [1, 2, 7] (fun sx sv sn wr => ∃ y z n : Int, sx = .int .i64 y ∧ sv = .int .i64 z ∧ sn = .int .i64 n ∧ 0 ≤ y ∧ y ≤ 100000000 ∧ 0 ≤ z ∧ z ≤ 10000 ∧ 0 ≤ n ∧ n + z ≤ P.delay + 10000 ∧ Hid (P.safe n y z = P.safe 0 x u) ∧ Hid (P.BoxAt wr w.heap.size ap az cp cz) ∧ Below w.heap.size w wr) (fun _ sv sn _ => P.fuel (intOf sn) (intOf sv))
  case atStart =>
    refine ⟨x, u, 0, rfl, rfl, rfl, hx0, hx1, hu0, hu1, by omega, by omega, rfl, ?_, (Below.refl _ _).alloc (Nat.le_refl _) _⟩
    show Prof.BoxAt _ _ _ _ _ _ _
    refine ⟨?_, ?_, ?_, ?_, ?_⟩ <;> go_simp
  case round =>
    obtain ⟨y, z, n, rfl, rfl, rfl, hy0, hy1, hz0, hz1, hn0, hn1, HE, HBX, hbel⟩ := hrel
    have hboxr := HBX.out
    obtain ⟨x0, x1, x2, x3, x4⟩ := hboxr
    go_wp2_with fail
    refine (l3may_any P _ y z _ (HV.out.below hbel) HOK.out hy0 (by omega) hz0 hz1).mono ?_
    rintro e w2 ⟨rfl, hb2⟩
    have b2 := hbel.trans (hb2.mono hbel.size)
    have HB2 : Hid (P.BoxAt w2 w.heap.size ap az cp cz) := HBX.out.below hb2
    clear x0 x1 x2 x3 x4 hb2 HBX
    by_cases hm : P.may y z = true
    · rw [hm]
      have hend := Prof.may_end hm
      by_cases hz : z = 0
      · subst hz
        have HF : Hid (P.safe 0 x u = true) := by show _ = _; rw [← HE.out]; exact Prof.safe_stand hm
        clear hm
        go_wp2
        go_ret
        exact ⟨ret_boolB HF.out.symm, b2⟩
      · have hz' : (z == 0) = false := by simpa using hz
        have hr := HOK.out.rate y
        obtain ⟨hr0, hr1⟩ := hr
        have HF : Hid (P.safe (n + 1) (y + z) (P.next n y z) = P.safe 0 x u) := by show _ = _; rw [← HE.out]; exact (Prof.safe_go HOK.out.rates hm (by omega)).symm
        have HM : Hid (P.fuel (n + 1) (P.next n y z) < P.fuel n z) := Prof.fuel_next HOK.out.rates (by omega)
        have hboxr := HB2.out
        obtain ⟨x0, x1, x2, x3, x4⟩ := hboxr
        clear hm
        go_wp2_with fail
        refine (l2rate_any P _ y _ (HV.out.below b2) HOK.out.lens h1).mono ?_
        rintro e w3 ⟨rfl, hb3⟩
        have b3 := b2.trans (hb3.mono b2.size)
        have HB3 : Hid (P.BoxAt w3 w.heap.size ap az cp cz) := HB2.out.below hb3
        clear x0 x1 x2 x3 x4 hb3 HB2
        have hboxr := HB3.out
        obtain ⟨x0, x1, x2, x3, x4⟩ := hboxr
        by_cases hd : P.delay ≤ n
        · have hls := less_lt (v := z) (b := P.rate y) (by omega) (by omega)
          obtain ⟨hl0, hl1⟩ := less_bounds (v := z) (b := P.rate y) (by omega) (by omega)
          have HN : Hid (P.next n y z = less z (P.rate y)) := by show _ = _; unfold Prof.next; rw [if_pos hd]
          go_wp2_with (go_at_call 52; refine (l2less_any _ _ _ (by omega) (by omega) (by omega) (by omega)).mono ?_; rintro e w4 ⟨rfl, rfl⟩)
          go_roundw
          case rel => exact ⟨y + z, less z (P.rate y), n + 1, by go_num, rfl, by go_num, by omega, by omega, by omega, by omega, by omega, by omega, by rw [← HN.out]; exact HF.out, HB3.out, b3⟩
          case measure => have := HM.out; rw [HN.out] at this; simpa [intOf] using this
        · have HN : Hid (P.next n y z = z) := by show _ = _; unfold Prof.next; rw [if_neg hd]
          go_wp2
          go_roundw
          case rel => exact ⟨y + z, z, n + 1, by go_num, rfl, by go_num, by omega, by omega, by omega, by omega, by omega, by omega, by have := HF.out; rw [HN.out] at this; exact this, HB3.out, b3⟩
          case measure => have := HM.out; rw [HN.out] at this; simpa [intOf] using this
    · have hm' : P.may y z = false := by simpa using hm
      rw [hm']
      have HF : Hid (P.safe 0 x u = false) := by show _ = _; rw [← HE.out]; exact Prof.safe_no hm'
      clear hm hm'
      go_wp2
      go_ret
      exact ⟨ret_boolB HF.out.symm, b2⟩

end Go.Proofs.Yteodefmpkljedaa

namespace Go.Proofs.Yteodefmpkljedaa
open Go.RowKit Go.Sort
set_option linter.unusedVariables false

/-- A right profile, a place of it, a speed. -/
def Prof.good (P : Prof) (x u : Int) : Bool := decide (P.code = 0 ∧ 0 ≤ x ∧ x ≤ P.total ∧ 0 ≤ u ∧ u ≤ 10000)
theorem Prof.good_yes {P : Prof} {x u : Int} (h : P.With x) (g : 0 ≤ u) (k : u ≤ 10000) : P.good x u = true := by
  unfold Prof.good
  simp only [decide_eq_true_eq]
  exact ⟨Prof.code_ok h.1, h.2.1, h.2.2, g, k⟩
theorem Prof.good_no {P : Prof} {x u : Int} (h : ¬ P.With x) : P.good x u = false := by
  unfold Prof.good
  simp only [decide_eq_false_iff_not]
  rintro ⟨a, b, c, _⟩
  exact h ⟨Prof.code_zero.1 a, b, c⟩
theorem Prof.good_fast {P : Prof} {x u : Int} (h : u < 0 ∨ 10000 < u) : P.good x u = false := by
  unfold Prof.good
  simp only [decide_eq_false_iff_not]
  rintro ⟨_, _, _, d, e⟩
  omega
theorem Prof.good_with {P : Prof} {x u : Int} (h : P.good x u = true) : P.With x ∧ 0 ≤ u ∧ u ≤ 10000 := by
  unfold Prof.good at h
  simp only [decide_eq_true_eq] at h
  exact ⟨⟨Prof.code_zero.1 h.1, h.2.1, h.2.2.1⟩, h.2.2.2⟩

set_option maxHeartbeats 2000000 in
theorem l3good_any (P : Prof) (v : Value) (x u : Int) (w : World) (hl : P.Lies w v) :
    Calls Try.prog 50 #[v, .int .i64 x, .int .i64 u] w fun e w' => e = .returned (.bool (P.good x u)) ∧ Below w.heap.size w w' := by
  have HV : Hid (P.Lies w v) := hl
  obtain ⟨ap, cp, az, cz, rfl, hn, hn', hr2, hr3⟩ := hl
  clear hr2 hr3
  go_enter Try.func50, Try.ntmps50
  go_wp2_with fail
  generalize hW : w.alloc _ = W
  have bW : Below w.heap.size w W := by rw [← hW]; exact (Below.refl _ _).alloc (Nat.le_refl _) _
  have hbox : P.BoxAt W w.heap.size ap az cp cz := by subst hW; exact ⟨by go_simp, by go_simp, by go_simp, by go_simp, by go_simp⟩
  clear hW
  refine (specOk_any P _ _ (HV.out.below bW)).mono ?_
  rintro e w1 ⟨rfl, hb1⟩
  have b1 := bW.trans (hb1.mono bW.size)
  have hbox1 := hbox.below hb1
  obtain ⟨x0, x1, x2, x3, x4⟩ := hbox1
  clear hb1 bW hbox
  by_cases hc : P.code = 0
  · have hok := Prof.code_zero.1 hc
    have HOK : Hid P.Ok := hok
    rw [hc]
    clear hc
    go_wp2_with fail
    refine (l2total_any P _ _ (HV.out.below b1) HOK.out.lens).mono ?_
    rintro e w2 ⟨rfl, hb2⟩
    have b2 := b1.trans (hb2.mono b1.size)
    clear x0 x1 x2 x3 x4 hb2
    by_cases hx : 0 ≤ x ∧ x ≤ P.total
    · by_cases hu : 0 ≤ u ∧ u ≤ 10000
      · have HG : Hid (P.good x u = true) := Prof.good_yes ⟨HOK.out, hx⟩ hu.1 hu.2
        go_wp2_with (go_at_call 63; refine (l1in_yes _ _ _ _ (by omega) (by omega)).mono ?_; rintro e w3 ⟨rfl, rfl⟩)
        go_ret
        exact ⟨ret_boolB (by rw [HG.out]), b2⟩
      · have HG : Hid (P.good x u = false) := Prof.good_fast (by omega)
        go_wp2_with (go_at_call 63; first | (refine (l1in_yes _ _ _ _ (by omega) (by omega)).mono ?_; rintro e w3 ⟨rfl, rfl⟩) | (refine (l1in_no _ _ _ _ (by omega)).mono ?_; rintro e w3 ⟨rfl, rfl⟩))
        go_ret
        exact ⟨ret_boolB (by rw [HG.out]), b2⟩
    · have HG : Hid (P.good x u = false) := Prof.good_no (fun h => hx ⟨h.2.1, h.2.2⟩)
      go_wp2_with (go_at_call 63; refine (l1in_no _ _ _ _ (by omega)).mono ?_; rintro e w3 ⟨rfl, rfl⟩)
      go_ret
      exact ⟨ret_boolB (by rw [HG.out]), b2⟩
  · have hc' : (P.code == 0) = false := by simpa using hc
    have HG : Hid (P.good x u = false) := Prof.good_no (fun h => hc (Prof.code_ok h.1))
    clear hc
    go_wp2
    go_ret
    exact ⟨ret_boolB (by rw [HG.out]), b1⟩

set_option maxHeartbeats 2000000 in
theorem specSafe_any (P : Prof) (v : Value) (x u : Int) (w : World) (hl : P.Lies w v) :
    Calls Try.prog 29 #[v, .int .i64 x, .int .i64 u] w fun e w' => e = .returned (.bool (P.safeAns x u)) ∧ Below w.heap.size w w' := by
  have HV : Hid (P.Lies w v) := hl
  obtain ⟨ap, cp, az, cz, rfl, hn, hn', hr2, hr3⟩ := hl
  clear hr2 hr3
  go_enter Try.func29, Try.ntmps29
  go_wp2_with fail
  generalize hW : w.alloc _ = W
  have bW : Below w.heap.size w W := by rw [← hW]; exact (Below.refl _ _).alloc (Nat.le_refl _) _
  have hbox : P.BoxAt W w.heap.size ap az cp cz := by subst hW; exact ⟨by go_simp, by go_simp, by go_simp, by go_simp, by go_simp⟩
  clear hW
  refine (l3good_any P _ x u _ (HV.out.below bW)).mono ?_
  rintro e w1 ⟨rfl, hb1⟩
  have b1 := bW.trans (hb1.mono bW.size)
  have hbox1 := hbox.below hb1
  obtain ⟨x0, x1, x2, x3, x4⟩ := hbox1
  clear hb1 bW hbox
  have HS : Hid (P.safeAns x u = (P.good x u && P.safe 0 x u)) := rfl
  cases hg : P.good x u with
  | true =>
    have HG : Hid (P.good x u = true) := hg
    obtain ⟨⟨hok, g0, g1⟩, g2, g3⟩ := Prof.good_with hg
    have HOK : Hid P.Ok := hok
    have htot := (Prof.total_bounds hok.lens).2
    clear hg hok
    go_wp2_with fail
    refine (l3safe_any P _ x u _ (HV.out.below b1) HOK.out g0 (by omega) g2 g3).mono ?_
    rintro e w2 ⟨rfl, hb2⟩
    have b2 := b1.trans (hb2.mono b1.size)
    clear hb2
    go_wp2
    go_ret
    exact ⟨ret_boolB (by rw [HS.out, HG.out]; simp), b2⟩
  | false =>
    have HG : Hid (P.good x u = false) := hg
    clear hg
    go_wp2
    go_ret
    exact ⟨ret_boolB (by rw [HS.out, HG.out]; simp), b1⟩

set_option maxHeartbeats 2000000 in
theorem l3most_any (P : Prof) (v : Value) (x : Int) (w : World) (hl : P.Lies w v) (hok : P.Ok) (hx0 : 0 ≤ x) (hx1 : x ≤ 100000000) :
    Calls Try.prog 69 #[v, .int .i64 x] w fun e w' => e = .returned (.int .i64 (P.most x)) ∧ Below w.heap.size w w' := by
  have HV : Hid (P.Lies w v) := hl
  have HOK : Hid P.Ok := hok
  obtain ⟨ap, cp, az, cz, rfl, hn, hn', hr2, hr3⟩ := hl
  clear hr2 hr3 hok
  go_enter Try.func69, Try.ntmps69
  go_wp2
  go_loopw [5] (fun sv wr => ∃ z : Int, sv = .int .i64 z ∧ 0 ≤ z ∧ z ≤ 10001 ∧ Hid (∀ u, 0 ≤ u → u < z → P.safe 0 x u = true) ∧ Hid (P.BoxAt wr w.heap.size ap az cp cz) ∧ Below w.heap.size w wr) (fun sv _ => (10001 - intOf sv).toNat)
  case atStart =>
    refine ⟨0, rfl, by omega, by omega, fun u a b => by omega, ?_, (Below.refl _ _).alloc (Nat.le_refl _) _⟩
    show Prof.BoxAt _ _ _ _ _ _ _
    refine ⟨?_, ?_, ?_, ?_, ?_⟩ <;> go_simp
  case round =>
    obtain ⟨z, rfl, hz0, hz1, HE, HBX, hbel⟩ := hrel
    by_cases hlt : z ≤ 10000
    · have hboxr := HBX.out
      obtain ⟨x0, x1, x2, x3, x4⟩ := hboxr
      go_wp2_with fail
      refine (l3safe_any P _ x z _ (HV.out.below hbel) HOK.out hx0 hx1 hz0 hlt).mono ?_
      rintro e w2 ⟨rfl, hb2⟩
      have b2 := hbel.trans (hb2.mono hbel.size)
      have HB2 : Hid (P.BoxAt w2 w.heap.size ap az cp cz) := HBX.out.below hb2
      clear x0 x1 x2 x3 x4 hb2 HBX
      cases hs : P.safe 0 x z with
      | true =>
        have HS : Hid (P.safe 0 x z = true) := hs
        clear hs
        go_wp2
        go_roundw
        case rel =>
          refine ⟨z + 1, by go_num, by omega, by omega, fun u a b => ?_, HB2.out, b2⟩
          by_cases d : u = z
          · subst d; exact HS.out
          · exact HE.out u a (by omega)
        case measure => simp [intOf]; omega
      | false =>
        have HS : Hid (P.safe 0 x z = false) := hs
        clear hs
        go_wp2
        go_ret
        refine ⟨ret_int (MostIs.unique (P := P) (x := x) ⟨by omega, by omega, fun u a b => HE.out u a (by omega), fun _ => ?_⟩ (P.most_is x)), b2⟩
        rw [show z - 1 + 1 = z by omega]
        exact HS.out
    · have e : z = 10001 := by omega
      subst e
      go_wp2
      go_ret
      exact ⟨ret_int (MostIs.unique (P := P) (x := x) ⟨by omega, by omega, fun u a b => HE.out u a (by omega), fun c => by omega⟩ (P.most_is x)), hbel⟩

set_option maxHeartbeats 2000000 in
theorem specMostNow_any (P : Prof) (v : Value) (x : Int) (w : World) (hl : P.Lies w v) :
    Calls Try.prog 30 #[v, .int .i64 x] w fun e w' => e = .returned (.int .i64 (P.mostAns x)) ∧ Below w.heap.size w w' := by
  have HV : Hid (P.Lies w v) := hl
  obtain ⟨ap, cp, az, cz, rfl, hn, hn', hr2, hr3⟩ := hl
  clear hr2 hr3
  go_enter Try.func30, Try.ntmps30
  go_wp2_with fail
  generalize hW : w.alloc _ = W
  have bW : Below w.heap.size w W := by rw [← hW]; exact (Below.refl _ _).alloc (Nat.le_refl _) _
  have hbox : P.BoxAt W w.heap.size ap az cp cz := by subst hW; exact ⟨by go_simp, by go_simp, by go_simp, by go_simp, by go_simp⟩
  clear hW
  refine (l3good_any P _ x 0 _ (HV.out.below bW)).mono ?_
  rintro e w1 ⟨rfl, hb1⟩
  have b1 := bW.trans (hb1.mono bW.size)
  have hbox1 := hbox.below hb1
  obtain ⟨x0, x1, x2, x3, x4⟩ := hbox1
  clear hb1 bW hbox
  by_cases h : P.With x
  · have HE : Hid (P.mostAns x = P.most x) := if_pos (Prof.with_iff.2 h)
    have HOK : Hid P.Ok := h.1
    have htot := (Prof.total_bounds h.1.lens).2
    obtain ⟨_, g0, g1⟩ := h
    rw [Prof.good_yes ⟨HOK.out, g0, g1⟩ (Int.le_refl 0) (by omega)]
    go_wp2_with fail
    refine (l3most_any P _ x _ (HV.out.below b1) HOK.out g0 (by omega)).mono ?_
    rintro e w2 ⟨rfl, hb2⟩
    have b2 := b1.trans (hb2.mono b1.size)
    clear hb2
    go_wp2
    go_ret
    exact ⟨ret_int HE.out.symm, b2⟩
  · have HE : Hid (P.mostAns x = -1) := if_neg (fun c => h (Prof.with_iff.1 c))
    rw [Prof.good_no h]
    clear h
    go_wp2
    go_ret
    exact ⟨ret_int HE.out.symm, b1⟩

end Go.Proofs.Yteodefmpkljedaa
