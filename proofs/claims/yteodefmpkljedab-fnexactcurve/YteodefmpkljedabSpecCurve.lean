/-
  The model of Curve.
-/
import Derived.Test.YteodefmpkljedabSpecSafe2
import Derived.Test.YteodefmpkljedabWatch
import Derived.Test.YteodefmpkljedabLawHelp
import Derived.Test.YteodefmpkljedabOwnRow
namespace Go.Proofs.Yteodefmpkljedab
open Go.RowKit Go.Sort
set_option linter.unusedVariables false

theorem Try.infoPoint : (Try.prog.info? 98).map (fun i => (i.zero, i.size, i.bytes)) = some (some (.agg #[.int .i64 0, .int .i64 0]), 2, 16) := by kernel_rfl

def Prof.curveOk (P : Prof) (step : Int) : Prop := P.Ok ∧ 1 ≤ step ∧ P.fin / step ≤ 200
/-- How many points the curve has. -/
def Prof.curveN (P : Prof) (step : Int) : Nat := if P.code = 0 ∧ 1 ≤ step ∧ P.fin / step ≤ 200 then (P.fin / step).toNat + 1 else 0
def Prof.curveAt (step : Int) (i : Nat) : Int := i * step
def Prof.curveSpeed (P : Prof) (step : Int) (i : Nat) : Int := P.most (i * step)
theorem Prof.curveN_no {P : Prof} {step : Int} (h : ¬ (P.Ok ∧ 1 ≤ step ∧ P.fin / step ≤ 200)) : P.curveN step = 0 := if_neg (fun c => h ⟨Prof.code_zero.1 c.1, c.2⟩)
theorem Prof.curveN_yes {P : Prof} {step : Int} (h : P.Ok) (g : 1 ≤ step) (k : P.fin / step ≤ 200) : P.curveN step = (P.fin / step).toNat + 1 := if_pos ⟨Prof.code_ok h, g, k⟩
theorem curve_count {fin step : Int} {k : Nat} (h : 1 ≤ step) (hf : 0 ≤ fin) (h1 : (k : Int) * step > fin) (h2 : 1 ≤ k) (h3 : ((k : Int) - 1) * step ≤ fin) : k = (fin / step).toNat + 1 := by
  have a : (k : Int) - 1 ≤ fin / step := (Int.le_ediv_iff_mul_le (by omega)).2 h3
  have b : fin / step < (k : Int) := (Int.ediv_lt_iff_lt_mul (by omega)).2 h1
  omega

set_option maxRecDepth 20000 in
set_option maxHeartbeats 4000000 in
theorem specCurve_any (P : Prof) (v : Value) (step : Int) (w : World) (hl : P.Lies w v) (hst : step ≤ 9223372036854775807) :
    Calls Try.prog 31 #[v, .int .i64 step] w fun e w' => ∃ v', e = .returned v' ∧ w'.ownsRow (w.heap.size + 1) 98 2 v' (P.curveN step) (pairs (Prof.curveAt step) (P.curveSpeed step) (P.curveN step)) ∧ Below w.heap.size w w' := by
  have HV : Hid (P.Lies w v) := hl
  obtain ⟨i0, hi, hz0, hz1, hz2⟩ := info_parts Try.infoPoint
  obtain ⟨ap, cp, az, cz, rfl, hn, hn', hr2, hr3⟩ := hl
  clear hr2 hr3
  go_enter Try.func31, Try.ntmps31
  go_wp2_with fail
  generalize hW : w.alloc _ = W
  have bW : Below w.heap.size w W := by rw [← hW]; exact (Below.refl _ _).alloc (Nat.le_refl _) _
  have sW : W.heap.size = w.heap.size + 1 := by rw [← hW]; simp
  have hbox : P.BoxAt W w.heap.size ap az cp cz := by subst hW; exact ⟨by go_simp, by go_simp, by go_simp, by go_simp, by go_simp⟩
  clear hW
  refine (l3good_any P _ 0 0 _ (HV.out.below bW)).mono ?_
  rintro e w1 ⟨rfl, hb1⟩
  have b1 := bW.trans (hb1.mono bW.size)
  have s1 := hb1.size
  have HB1 : Hid (P.BoxAt w1 w.heap.size ap az cp cz) := hbox.below hb1
  have hbox1 := HB1.out
  obtain ⟨x0, x1, x2, x3, x4⟩ := hbox1
  clear hb1 bW hbox
  cases hg : P.good 0 0 with
  | false =>
    have HN : Hid (P.curveN step = 0) := Prof.curveN_no (fun c => by rw [Prof.good_yes ⟨c.1, Int.le_refl 0, (Prof.total_bounds c.1.lens).1 |> fun h => by omega⟩ (Int.le_refl 0) (by omega)] at hg; cases hg)
    clear hg
    go_wp2
    go_ret
    exact ⟨_, rfl, by rw [HN.out]; exact World.ownsRow_nil _ _ _ _, b1⟩
  | true =>
    obtain ⟨⟨hok, _, _⟩, _, _⟩ := Prof.good_with hg
    have HOK : Hid P.Ok := hok
    obtain ⟨f0, f1⟩ := hok.fin
    have htot := (Prof.total_bounds hok.lens).2
    clear hok hg
    by_cases hs : step < 1
    · have HN : Hid (P.curveN step = 0) := Prof.curveN_no (fun c => by omega)
      go_wp2
      go_ret
      exact ⟨_, rfl, by rw [HN.out]; exact World.ownsRow_nil _ _ _ _, b1⟩
    · have hs' : decide (step < 1) = false := by simpa using hs
      have hq : P.fin.tdiv step = P.fin / step := Int.tdiv_eq_ediv_of_nonneg f0
      have hq0 : 0 ≤ P.fin / step := Int.ediv_nonneg f0 (by omega)
      have hq1 : P.fin / step ≤ P.fin := Int.ediv_le_self _ f0
      have hne : (step == 0) = false := by simp; omega
      have hne' : step ≠ 0 := by omega
      by_cases h2 : 200 < P.fin / step
      · have HN : Hid (P.curveN step = 0) := Prof.curveN_no (fun c => by omega)
        go_wp2
        go_ret
        exact ⟨_, rfl, by rw [HN.out]; exact World.ownsRow_nil _ _ _ _, b1⟩
      · have HN : Hid (P.curveN step = (P.fin / step).toNat + 1) := Prof.curveN_yes HOK.out (by omega) (by omega)
        have h2' : decide (200 < P.fin / step) = false := by simpa using h2
        clear x0 x1 x2 x4
        replace h2 : P.fin / step ≤ 200 := by omega
        go_wp2
        go_loopw [5, 6] (fun sv sx wr => ∃ (k : Nat) (y : Int), sx = .int .i64 y ∧ Hid (y = k * step) ∧ 0 ≤ y ∧ (k : Int) ≤ y ∧ (y = 0 ∨ step ≤ y) ∧ Hid (1 ≤ k → ((k : Int) - 1) * step ≤ P.fin) ∧ (k : Int) ≤ P.fin + 1 ∧ Hid (wr.ownsRow (w.heap.size + 1) 98 2 sv k (pairs (Prof.curveAt step) (P.curveSpeed step) k)) ∧ Hid (P.BoxAt wr w.heap.size ap az cp cz) ∧ w.heap.size + 1 ≤ wr.heap.size ∧ Below w.heap.size w wr) (fun _ sx _ => (P.fin + 1 - intOf sx).toNat)
        case atStart => exact ⟨0, 0, rfl, by show (0 : Int) = _; simp, by omega, by omega, Or.inl rfl, fun h => by omega, by omega, World.ownsRow_nil _ _ _ _, HB1.out, by omega, b1⟩
        case round =>
          clear x3 HB1 b1
          obtain ⟨k, y, rfl, HY, hy0, hky, hys, HK, hkf, HO, HBX, hsz, hbel⟩ := hrel
          have hboxr := HBX.out
          obtain ⟨x0, x1, x2, x3, x4⟩ := hboxr
          by_cases hlt : y ≤ P.fin
          · go_wp2_with fail
            refine (l3most_any P _ y _ (HV.out.below hbel) HOK.out hy0 (by omega)).mono ?_
            rintro e w2 ⟨rfl, hb2⟩
            have b2 := hbel.trans (hb2.mono hbel.size)
            have HB2 : Hid (P.BoxAt w2 w.heap.size ap az cp cz) := HBX.out.below hb2
            clear x0 x1 x2 x3 x4 HBX
            have s2 := hb2.size
            have HO2 := HO.out
            go_wp2_with (first | (at_builtin; refine wpList_append_own _ rfl _ _ 42 rfl (w.heap.size + 1) 98 i0 (.agg #[.int .i64 0, .int .i64 0]) 2 16 Try.underlying42 hi hz0 hz1 hz2 rfl (by decide) _ _ _ rfl (ownsRow_below HO2 hb2 |>.alloc _) ⟨w2.heap.size, 0, none⟩ 1 1 [.int .i64 y, .int .i64 (P.most y)] rfl rfl ?c1 ?c2 ?c3 ?c4 ?c5 ?_))
            case c1 =>
              intro j u hj
              match j, hj with
              | 0, hj => simp at hj; subst hj; simp [Addr.add]
              | 1, hj => simp at hj; subst hj; simp [Addr.add]
            case c2 => intro u hu; simp at hu; rcases hu with rfl | rfl <;> rfl
            case c3 => unfold maxLen; omega
            case c4 => omega
            case c5 => simp; omega
            intro v3 w3 hown3 hgrow3 _
            have bq : Below (w.heap.size + 1) (w2.alloc (.cells #[.int .i64 y, .int .i64 (P.most y)] 98)) w3 := (Below.refl _ _).grown hgrow3 (by simp; omega) (ownsRow_block HO2)
            have b3 : Below w.heap.size w w3 := (b2.alloc b2.size _).trans (bq.mono (by omega))
            have HB3 : Hid (P.BoxAt w3 w.heap.size ap az cp cz) := ((HB2.out.below ((Below.refl _ _).alloc (Nat.le_refl _) _)).below' (by omega) bq)
            have HO3 : Hid (w3.ownsRow (w.heap.size + 1) 98 2 v3 (k + 1) (pairs (Prof.curveAt step) (P.curveSpeed step) (k + 1))) := by
              show World.ownsRow _ _ _ _ _ _ _
              have e1 : Prof.curveAt step k = y := by rw [HY.out]; rfl
              have e2 : P.curveSpeed step k = P.most y := by rw [HY.out]; rfl
              rw [pairs, e1, e2]; exact hown3
            have HY3 : Hid (y + step = ((k + 1 : Nat) : Int) * step) := by
              show _ = _
              rw [HY.out, show ((k + 1 : Nat) : Int) = (k : Int) + 1 by omega, Int.add_mul]; omega
            have s3 := bq.size
            simp at s3
            clear hown3 hgrow3 HO2 hb2 HO bq
            go_wp2
            go_roundw
            case rel =>
              refine ⟨k + 1, y + step, rfl, HY3.out, by omega, by omega, Or.inr (by omega), fun _ => ?_, by omega, HO3.out, HB3.out, by omega, b3⟩
              rw [show ((k + 1 : Nat) : Int) - 1 = (k : Int) by omega, ← HY.out]; exact hlt
            case measure => simp [intOf]; omega
          · have HC : Hid (P.curveN step = k) := by
              show _ = _
              rw [HN.out]
              have h1k : 1 ≤ k := by
                rcases Nat.eq_zero_or_pos k with c | c
                · have := HY.out; rw [c] at this; simp at this; omega
                · exact c
              exact (curve_count (by omega) f0 (by rw [← HY.out]; omega) h1k (HK.out h1k)).symm
            go_wp2
            go_ret
            exact ⟨_, rfl, by rw [HC.out]; exact HO.out, hbel⟩

end Go.Proofs.Yteodefmpkljedab
