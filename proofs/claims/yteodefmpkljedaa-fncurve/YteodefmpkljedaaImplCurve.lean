/-
  The program's Curve.
-/
import Derived.Test.YteodefmpkljedaaWeak
import Derived.Test.YteodefmpkljedaaSpecCurve
namespace Go.Proofs.Yteodefmpkljedaa
open Go.RowKit
attribute [local go_sem ↓] Go.wp_at_zero Go.wp_at_succ
set_option linter.unusedVariables false

theorem ownsRow_pairs {w : World} {base g t n : Nat} {f k : Nat → Int} (h : w.rowIs g t (n * 2) (col2 f k)) (hb : base ≤ g) (hn : n ≤ maxLen) : w.ownsRow base t 2 (.slice (some ⟨g, 0, none⟩) n n) n (pairs f k n) := by
  obtain ⟨c, hh, hs, hc⟩ := h
  refine ⟨pairs_length f k n, Or.inr ⟨g, n, c, rfl, hb, hh, Nat.le_refl _, hn, hs, ?_⟩⟩
  rw [List.take_of_length_le (by simp; omega)]
  refine List.ext_getElem? (fun i => ?_)
  rcases Nat.lt_or_ge i (n * 2) with q | q
  · have e1 : c.toList[i]? = some (col2 f k i) := by rw [Array.getElem?_toList]; exact hc i q
    rw [e1]
    obtain ⟨p0, p1⟩ := pairs_get f k n (i / 2) (by omega)
    rcases Nat.mod_two_eq_zero_or_one i with m | m
    · rw [show i / 2 * 2 = i by omega] at p0
      rw [p0]
      simp [col2, m]
    · rw [show i / 2 * 2 + 1 = i by omega] at p1
      rw [p1]
      simp [col2, m]
  · rw [List.getElem?_eq_none (by simp; omega), List.getElem?_eq_none (by rw [pairs_length]; omega)]

set_option maxRecDepth 20000 in
set_option maxHeartbeats 8000000 in
theorem implCurve_yes (P : Prof) (v : Value) (step : Int) (w : World) (hl : P.Lies w v) (hok : P.Ok) (hs : 1 ≤ step) (hst : step ≤ 9223372036854775807) (h2 : P.fin / step ≤ 200) :
    Calls Try.prog 40 #[v, .int .i64 step] w fun e w' => ∃ v', e = .returned v' ∧ w'.ownsRow w.heap.size 57 2 v' (P.curveN step) (pairs (Prof.curveAt step) (P.curveSpeed step) (P.curveN step)) ∧ Below w.heap.size w w' := by
  have HV : Hid (P.Lies w v) := hl
  obtain ⟨i0, hi, hz0, hz1, hz2⟩ := info_parts Try.infoPoint
  obtain ⟨ap, cp, az, cz, rfl, hn, hn', hr2, hr3⟩ := hl
  have HOK : Hid P.Ok := hok
  have hbt := P.total_bounds hok.lens
  have HA : Hid (P.With 0) := ⟨hok, Int.le_refl _, by omega⟩
  obtain ⟨f0, f1⟩ := hok.fit.fin
  have HN : Hid (P.curveN step = (P.fin / step).toNat + 1) := Prof.curveN_yes hok hs h2
  have hq : P.fin.tdiv step = P.fin / step := Int.tdiv_eq_ediv_of_nonneg f0
  have hq0 : 0 ≤ P.fin / step := Int.ediv_nonneg f0 (by omega)
  have hne : (step == 0) = false := by simp; omega
  have hne' : step ≠ 0 := by omega
  have hs' : decide (step < 1) = false := by simp; omega
  have h2' : decide (200 < P.fin / step) = false := by simp; omega
  have HMUL : Hid (∀ k : Nat, (k : Int) ≤ P.fin / step → 0 ≤ (k : Int) * step ∧ (k : Int) * step ≤ P.fin) := fun k hk => ⟨Int.mul_nonneg (by omega) (by omega), Int.le_trans (Int.mul_le_mul_of_nonneg_right hk (by omega)) (Int.ediv_mul_le _ (by omega))⟩
  clear hr2 hr3 hok hbt
  obtain ⟨n, hn0⟩ : ∃ n : Nat, P.fin / step = (n : Int) := ⟨(P.fin / step).toNat, by omega⟩
  have hmk : ∀ w : World, (Instr.makeSlice 54 (.int .i64 ((n : Int) + 1)) (.int .i64 ((n : Int) + 1))).run Try.prog w = .ok (.slice (some ⟨w.heap.size, 0, none⟩) (n + 1) (n + 1)) (w.alloc (.cells (madeCells #[.int .i64 0, .int .i64 0] ((n + 1) * 2)) 57)) := by
    intro w
    have := run_make (P := Try.prog) w 54 57 i0 _ Try.underlying54 hi hz0 .i64 .i64 (n + 1) (n + 1) (by omega) (by omega) (by rw [hz2]; omega) (by omega)
    simpa [hz1, Value.cells] using this
  go_enter Try.func40, Try.ntmps40
  go_wp2_with fail
  generalize hW : w.alloc _ = W
  have bW : Below w.heap.size w W := by rw [← hW]; exact (Below.refl _ _).alloc (Nat.le_refl _) _
  have hbox : P.BoxAt W w.heap.size ap az cp cz := by subst hW; exact ⟨by go_simp, by go_simp, by go_simp, by go_simp, by go_simp⟩
  clear hW
  refine (courseWith_yes P _ 0 _ (HV.out.below bW) HA.out).mono ?_
  rintro e w2 ⟨v', rfl, hc, hb2⟩
  have b2 := bW.trans (hb2.mono bW.size)
  have HC : Hid (P.CourseIs w2 v') := hc
  have HX2 : Hid (P.BoxAt w2 w.heap.size ap az cp cz) := hbox.below hb2
  have hsz2 : w.heap.size < w2.heap.size := HX2.out.lt
  obtain ⟨bp, dp, bz, dz, g, h, nb, cn, b, rfl, hc⟩ := hc
  clear hb2 hc hbox bW
  obtain ⟨W3, hW3⟩ : ∃ W3, w2.alloc (.cells #[.slice bp P.np dp, .slice bz P.nz dz, .int .i64 P.train, .int .i64 P.fin, .int .i64 P.delay, .slice (some ⟨g, 0, none⟩) P.np P.np, .slice (some ⟨h, 0, none⟩) nb cn] 71) = W3 := ⟨_, rfl⟩
  have bq : Below w2.heap.size w2 W3 := by rw [← hW3]; exact (Below.refl _ _).alloc (Nat.le_refl _) _
  have b3 := b2.trans (bq.mono b2.size)
  have s3 : W3.heap.size = w2.heap.size + 1 := by rw [← hW3]; simp
  have HC3 := HC.out.below bq
  have HK3 : Hid (P.CBox W3 w2.heap.size bp bz dp dz g h nb cn) := by show Prof.CBox _ _ _ _ _ _ _ _ _ _ _; subst hW3; exact ⟨by go_simp, by go_simp, by go_simp, by go_simp, by go_simp, by go_simp, by go_simp⟩
  have HC3' : Hid (P.CourseIs W3 (.agg #[.slice bp P.np dp, .slice bz P.nz dz, .int .i64 P.train, .int .i64 P.fin, .int .i64 P.delay, .slice (some ⟨g, 0, none⟩) P.np P.np, .slice (some ⟨h, 0, none⟩) nb cn])) := HC3
  have x3 : W3.cell? ⟨w.heap.size, 3, none⟩ = some (.int .i64 P.fin) := (HX2.out.below bq).2.2.2.1
  clear HC3 HC bq
  go_wp2
  obtain ⟨G, hG⟩ : ∃ G, w2.heap.size + 1 = G := ⟨_, rfl⟩
  go_loopw [35] (fun i wr => ∃ k : Nat, k ≤ n + 1 ∧ i = .int .i64 k ∧ Hid (∃ f, wr.rowIs (w2.heap.size + 1) 57 ((n + 1) * 2) f ∧ ∀ j, j < k * 2 → f j = col2 (Prof.curveAt step) (P.curveSpeed step) j) ∧ Hid (Below W3.heap.size W3 wr)) (fun i _ => n + 1 - (intOf i).toNat)
  case atStart =>
    have := rowIs_zeros W3 #[.int .i64 0, .int .i64 0] ((n + 1) * 2) 57
    rw [s3] at this
    exact ⟨0, Nat.zero_le _, rfl, ⟨_, this, fun j hj => by omega⟩, (Below.refl _ _).alloc (Nat.le_refl _) _⟩
  case round =>
    rw [hG] at hrel ⊢
    obtain ⟨k, hk, rfl, HF, HQ⟩ := hrel
    have bq : Below w.heap.size w wr := b3.trans (HQ.out.mono b3.size)
    by_cases hlt : k < n + 1
    · have hkI : (k : Int) < (n : Int) + 1 := by omega
      obtain ⟨m0, m1⟩ := HMUL.out k (by omega)
      obtain ⟨y, hy⟩ : ∃ y, (k : Int) * step = y := ⟨_, rfl⟩
      rw [hy] at m0 m1
      have HY : Hid ((k : Int) * step = y) := hy
      obtain ⟨x0, x1, x2, x3', x4, x5, x6⟩ := HK3.out.below HQ.out
      go_wp2_with fail
      refine (mostNow_any P _ y _ (HC3'.out.below HQ.out) HOK.out m0 (by omega)).mono ?_
      rintro e w6 ⟨rfl, hb6⟩
      obtain ⟨f, hrow, hf⟩ := HF.out
      have HR6 : Hid (w6.rowIs G 57 ((n + 1) * 2) f ∧ ∀ j, j < k * 2 → f j = col2 (Prof.curveAt step) (P.curveSpeed step) j) := ⟨rowIs_below hrow hb6, hf⟩
      have d0 := HR6.out.1.cell (i := k * 2) (by omega)
      have d1 := HR6.out.1.cell (i := k * 2 + 1) (by omega)
      have df := HR6.out.1.frozen
      clear hrow hf HF x0 x1 x2 x3' x4 x5 x6
      go_wp2
      go_roundw
      case rel =>
        have e1 : Prof.curveAt step k = y := HY.out
        have e2 : P.curveSpeed step k = P.most y := by unfold Prof.curveSpeed; rw [HY.out]
        have := set2 HR6.out.1 HR6.out.2
        rw [e1, e2] at this
        exact ⟨k + 1, by omega, by go_num, this, ((HQ.out.trans (hb6.mono HQ.out.size)).setCell (by show W3.heap.size ≤ G; omega) _).setCell (by show W3.heap.size ≤ G; omega) _⟩
      case measure => simp [intOf]; omega
    · have ek : k = n + 1 := by omega
      subst ek
      have HNN : Hid (P.curveN step = n + 1) := by show _ = _; rw [HN.out, hn0]; simp
      go_wp2
      go_ret
      obtain ⟨f, hrow, hf⟩ := HF.out
      refine ⟨_, rfl, ?_, bq⟩
      rw [HNN.out]
      exact ownsRow_pairs (hrow.congr fun i hi => hf i hi) (by omega) (by unfold maxLen; omega)

set_option maxHeartbeats 8000000 in
theorem implCurve_no (P : Prof) (v : Value) (step : Int) (w : World) (hl : P.Lies w v) (hok : P.Ok) (hst : step ≤ 9223372036854775807) (h : step < 1 ∨ 200 < P.fin / step) :
    Calls Try.prog 40 #[v, .int .i64 step] w fun e w' => ∃ v', e = .returned v' ∧ w'.ownsRow w.heap.size 57 2 v' (P.curveN step) (pairs (Prof.curveAt step) (P.curveSpeed step) (P.curveN step)) ∧ Below w.heap.size w w' := by
  have HV : Hid (P.Lies w v) := hl
  obtain ⟨ap, cp, az, cz, rfl, hn, hn', hr2, hr3⟩ := hl
  have hbt := P.total_bounds hok.lens
  have HA : Hid (P.With 0) := ⟨hok, Int.le_refl _, by omega⟩
  obtain ⟨f0, f1⟩ := hok.fit.fin
  have HN : Hid (P.curveN step = 0) := Prof.curveN_no (fun c => by omega)
  clear hr2 hr3 hok hbt
  go_enter Try.func40, Try.ntmps40
  go_wp2_with fail
  generalize hW : w.alloc _ = W
  have bW : Below w.heap.size w W := by rw [← hW]; exact (Below.refl _ _).alloc (Nat.le_refl _) _
  have hbox : P.BoxAt W w.heap.size ap az cp cz := by subst hW; exact ⟨by go_simp, by go_simp, by go_simp, by go_simp, by go_simp⟩
  clear hW
  refine (courseWith_yes P _ 0 _ (HV.out.below bW) HA.out).mono ?_
  rintro e w2 ⟨v', rfl, hc, hb2⟩
  have b2 := bW.trans (hb2.mono bW.size)
  have HX2 : Hid (P.BoxAt w2 w.heap.size ap az cp cz) := hbox.below hb2
  obtain ⟨bp, dp, bz, dz, g, hh, nb, cn, b, rfl, hc⟩ := hc
  clear hb2 hc hbox bW
  obtain ⟨W3, hW3⟩ : ∃ W3, w2.alloc (.cells #[.slice bp P.np dp, .slice bz P.nz dz, .int .i64 P.train, .int .i64 P.fin, .int .i64 P.delay, .slice (some ⟨g, 0, none⟩) P.np P.np, .slice (some ⟨hh, 0, none⟩) nb cn] 71) = W3 := ⟨_, rfl⟩
  have bq : Below w2.heap.size w2 W3 := by rw [← hW3]; exact (Below.refl _ _).alloc (Nat.le_refl _) _
  have b3 := b2.trans (bq.mono b2.size)
  have x3 : W3.cell? ⟨w.heap.size, 3, none⟩ = some (.int .i64 P.fin) := (HX2.out.below bq).2.2.2.1
  by_cases hs : step < 1
  · clear h
    go_wp2
    go_ret
    exact ⟨_, rfl, by rw [HN.out]; exact World.ownsRow_nil _ _ _ _, b3⟩
  · have h2 : 200 < P.fin / step := by omega
    have hs' : decide (step < 1) = false := by simpa using hs
    have hq : P.fin.tdiv step = P.fin / step := Int.tdiv_eq_ediv_of_nonneg f0
    have hq1 : P.fin / step ≤ P.fin := Int.ediv_le_self _ f0
    have hne : (step == 0) = false := by simp; omega
    have hne' : step ≠ 0 := by omega
    clear h
    go_wp2
    go_ret
    exact ⟨_, rfl, by rw [HN.out]; exact World.ownsRow_nil _ _ _ _, b3⟩

set_option maxHeartbeats 8000000 in
theorem implCurve_wrong (P : Prof) (v : Value) (step : Int) (w : World) (hl : P.Lies w v) (hok : ¬ P.Ok) :
    Calls Try.prog 40 #[v, .int .i64 step] w fun e w' => ∃ v', e = .returned v' ∧ w'.ownsRow w.heap.size 57 2 v' (P.curveN step) (pairs (Prof.curveAt step) (P.curveSpeed step) (P.curveN step)) ∧ Below w.heap.size w w' := by
  have HV : Hid (P.Lies w v) := hl
  obtain ⟨ap, cp, az, cz, rfl, hn, hn', hr2, hr3⟩ := hl
  have HA : Hid (¬ P.With 0) := fun c => hok c.1
  have HN : Hid (P.curveN step = 0) := Prof.curveN_no (fun c => hok c.1)
  clear hr2 hr3 hok
  go_enter Try.func40, Try.ntmps40
  go_wp2_with fail
  have b0 : Below w.heap.size w (w.alloc (.cells #[.slice ap P.np cp, .slice az P.nz cz, .int .i64 P.train, .int .i64 P.fin, .int .i64 P.delay] 26)) := (Below.refl _ _).alloc (Nat.le_refl _) _
  refine (courseWith_no P _ 0 _ (HV.out.below b0) HA.out).mono ?_
  rintro e w2 ⟨rfl, hb2⟩
  have b2 := b0.trans (hb2.mono b0.size)
  clear hb2 b0
  go_wp2
  go_ret
  exact ⟨_, rfl, by rw [HN.out]; exact World.ownsRow_nil _ _ _ _, b2.alloc b2.size _⟩

theorem implCurve_any (P : Prof) (v : Value) (step : Int) (w : World) (hl : P.Lies w v) (hst : step ≤ 9223372036854775807) :
    Calls Try.prog 40 #[v, .int .i64 step] w fun e w' => ∃ v', e = .returned v' ∧ w'.ownsRow w.heap.size 57 2 v' (P.curveN step) (pairs (Prof.curveAt step) (P.curveSpeed step) (P.curveN step)) ∧ Below w.heap.size w w' := by
  by_cases h : P.Ok
  · by_cases c : step < 1 ∨ 200 < P.fin / step
    · exact implCurve_no P v step w hl h hst c
    · exact implCurve_yes P v step w hl h (by omega) hst (by omega)
  · exact implCurve_wrong P v step w hl h

end Go.Proofs.Yteodefmpkljedaa
