/-
  The walk of FnExactCurve, laid into a frame of the template's make.
-/
import Derived.Test.YteodefmpkljedabRows
import Derived.Test.YteodefmpkljedabOpenProf
import Derived.Test.YteodefmpkljedabSpecCurve
import Derived.Test.YteodefmpkljedabImplCurve
import Derived.Test.YteodefmpkljedabLawEq
import Derived.Test.YteodefmpkljedabLawInts
import Derived.Deep.RegionHeld3
import Derived.ProofKit
import Derived.OpenShut
import Derived.ChangeOld
import Derived.Below
namespace Go.Proofs.Yteodefmpkljedab.fnExactCurve
open Go.ChangeShapes Go.WideShapes Go.ChangeAt Go.RowKit
set_option linter.unusedVariables false

theorem own : ownKnob Try.prog.godebug = none := by kernel_rfl
theorem laidOut : laidOutB Try.prog = true := by kernel_rfl

theorem curveN_le (P : Prof) (step : Int) : P.curveN step ≤ 201 := by
  unfold Prof.curveN
  split <;> omega

set_option maxHeartbeats 8000000 in
theorem walk (P : Prof) (v : Value) (a1 : Int) (w1 : (Lit.int .i64 a1).wf = true) (w : World) (hl : P.Lies w v) :
    Calls Try.prog 10 #[v, .int .i64 a1] w fun e w' => e = .returned (.bool true) ∧ Below w.heap.size w w' := by
  have HV : Hid (P.Lies w v) := hl
  have hst : a1 ≤ 9223372036854775807 := (bounds_i64 w1).2
  have hN := curveN_le P a1
  by_cases hs : 1048576 < P.np + P.nz
  · obtain ⟨ap, cp, az, cz, rfl, hn, hn', hr2, hr3⟩ := hl
    clear hr2 hr3
    go_enter Try.func10, Try.ntmps10
    go_wp2_with (go_at_call 16; refine (szProfile_no P _ _ (HV.out.below ((Below.refl _ _).alloc (Nat.le_refl _) _)) hs).mono ?_; rintro e w1 ⟨rfl, hb1⟩)
    go_ret
    exact ⟨rfl, ((Below.refl _ _).alloc (Nat.le_refl _) _).trans (hb1.mono (by simp))⟩
  · have hs' : P.np + P.nz ≤ 1048576 := by omega
    clear hs
    obtain ⟨ap, cp, az, cz, rfl, hn, hn', hr2, hr3⟩ := hl
    clear hr2 hr3
    go_enter Try.func10, Try.ntmps10
    go_wp2_with fail
    generalize hW : w.alloc _ = W
    have bW : Below w.heap.size w W := by rw [← hW]; exact (Below.refl _ _).alloc (Nat.le_refl _) _
    have hbox : P.BoxAt W w.heap.size ap az cp cz := by subst hW; exact ⟨by go_simp, by go_simp, by go_simp, by go_simp, by go_simp⟩
    clear hW
    refine (szProfile_yes P _ _ (HV.out.below bW) hs').mono ?_
    rintro e w1 ⟨m, rfl, m0, m1, hb1⟩
    have b1 := bW.trans (hb1.mono bW.size)
    replace hbox := hbox.below hb1
    have HBX : Hid (P.BoxAt w1 w.heap.size ap az cp cz) := hbox
    obtain ⟨x0, x1, x2, x3, x4⟩ := hbox
    clear hb1 bW
    go_wp2_with fail
    refine (toProfile_any P _ _ (HV.out.below b1) hs').mono ?_
    rintro e w2 ⟨v2, rfl, hc2, hb2⟩
    have b2 := b1.trans (hb2.mono b1.size)
    have HB2 : Hid (P.BoxAt w2 w.heap.size ap az cp cz) := HBX.out.below hb2
    clear x0 x1 x2 x3 x4 hb2
    go_wp2_with fail
    refine (specCurve_any P _ _ _ hc2.lies hst).mono ?_
    rintro e w3 ⟨u3, rfl, hw3, hb3⟩
    obtain ⟨sa, sc, rfl, _, _, _⟩ := owned_shape hw3
    have HW0 : Hid (Row2 w3 sa (P.curveN a1) (Prof.curveAt a1) (P.curveSpeed a1)) := owned_row2 hw3
    have b3 := b2.trans (hb3.mono b2.size)
    have HB3 : Hid (P.BoxAt w3 w.heap.size ap az cp cz) := HB2.out.below hb3
    have hbox3 := HB3.out
    obtain ⟨x0, x1, x2, x3, x4⟩ := hbox3
    clear hb3 hc2 hw3
    go_wp2_with fail
    refine (toProfile_any P _ _ (HV.out.below b3) hs').mono ?_
    rintro e w4 ⟨v4, rfl, hc4, hb4⟩
    have T4 : Below w3.heap.size w3 w4 := hb4
    have HC4 : Hid (P.Copied w3.heap.size w4 v4) := hc4
    obtain ⟨g, h, rfl, hgb, hgh, _, _, hrow1, hrow2⟩ := hc4
    have gl := hrow1.lt
    have hl := hrow2.lt
    clear x0 x1 x2 x3 x4 hb4 hrow1 hrow2
    go_wp2_with fail
    obtain ⟨zb, hzb⟩ : ∃ zb, w4.heap.size = zb := ⟨_, rfl⟩
    rw [hzb]
    generalize hW5 : w4.alloc _ = W5
    have bq : Below w4.heap.size w4 W5 := by rw [← hW5]; exact (Below.refl _ _).alloc (Nat.le_refl _) _
    have T5 := T4.trans (bq.mono T4.size)
    have s5 : zb < W5.heap.size := by rw [← hW5, ← hzb]; simp
    have hX5 : P.BoxAt W5 zb (some ⟨g, 0, none⟩) (some ⟨h, 0, none⟩) P.np P.nz := by subst hW5 hzb; exact ⟨by go_simp, by go_simp, by go_simp, by go_simp, by go_simp⟩
    have hc5 := HC4.out.below bq
    have s45 := bq.size
    clear hW5 bq HC4
    refine (implCurve_any P _ _ _ hc5.lies hst).mono ?_
    rintro e w6 ⟨u6, rfl, hg6, hb6⟩
    obtain ⟨ga, gc, rfl, _, _, _⟩ := owned_shape hg6
    have O6 : Hid (w6.ownsRow W5.heap.size 98 2 (.slice ga (P.curveN a1) gc) (P.curveN a1) (pairs (Prof.curveAt a1) (P.curveSpeed a1) (P.curveN a1))) := hg6
    have T6 := T5.trans (hb6.mono T5.size)
    have hX6 : Hid (P.BoxAt w6 zb (some ⟨g, 0, none⟩) (some ⟨h, 0, none⟩) P.np P.nz) := hX5.below hb6
    have HC6 : Hid (P.Copied w3.heap.size w6 (.agg #[.slice (some ⟨g, 0, none⟩) P.np P.np, .slice (some ⟨h, 0, none⟩) P.nz P.nz, .int .i64 P.train, .int .i64 P.fin, .int .i64 P.delay])) := hc5.below hb6
    have s6 := hb6.size
    clear hb6 hX5 hc5 hg6
    go_wp2_with fail
    refine (eqPointS_same _ _ _ _ _ _ _ _ (owned_row2 O6.out) (HW0.out.below T6) (by omega)).mono ?_
    rintro e w7 ⟨rfl, hb7⟩
    have O7 : Hid (w7.ownsRow W5.heap.size 98 2 (.slice ga (P.curveN a1) gc) (P.curveN a1) (pairs (Prof.curveAt a1) (P.curveSpeed a1) (P.curveN a1))) := ownsRow_below O6.out hb7
    have T7 := T6.trans (hb7.mono T6.size)
    have HC7 : Hid (P.Copied w3.heap.size w7 (.agg #[.slice (some ⟨g, 0, none⟩) P.np P.np, .slice (some ⟨h, 0, none⟩) P.nz P.nz, .int .i64 P.train, .int .i64 P.fin, .int .i64 P.delay])) := HC6.out.below hb7
    have hX7 := hX6.out.below hb7
    have hB7 := HB3.out.below T7
    have lw := HB3.out.lt
    have lz := hX7.lt
    have s7 := hb7.size
    obtain ⟨x0, x1, x2, x3, x4⟩ := hB7
    obtain ⟨y0, y1, y2, y3, y4⟩ := hX7
    clear hb7
    go_wp2_with fail
    go_region_held3 (fun y => y.cell? ⟨w.heap.size, 0, none⟩ = some (.slice ap P.np cp) ∧ y.cell? ⟨w.heap.size, 1, none⟩ = some (.slice az P.nz cz) ∧ y.cell? ⟨w.heap.size, 2, none⟩ = some (.int .i64 P.train) ∧ y.cell? ⟨w.heap.size, 3, none⟩ = some (.int .i64 P.fin) ∧ y.cell? ⟨w.heap.size, 4, none⟩ = some (.int .i64 P.delay) ∧ y.cell? ⟨zb, 0, none⟩ = some (.slice (some ⟨g, 0, none⟩) P.np P.np) ∧ y.cell? ⟨zb, 1, none⟩ = some (.slice (some ⟨h, 0, none⟩) P.nz P.nz) ∧ y.cell? ⟨zb, 2, none⟩ = some (.int .i64 P.train) ∧ y.cell? ⟨zb, 3, none⟩ = some (.int .i64 P.fin) ∧ y.cell? ⟨zb, 4, none⟩ = some (.int .i64 P.delay)) (first | go_keep | (go_split_ands; refine ⟨?_, ?_, ?_, ?_, ?_, ?_, ?_, ?_, ?_, ?_⟩ <;> first | assumption | (rw [hb9.cell (by simp; omega)]; assumption) | (rw [hb8.cell (by simp; omega)]; assumption)))
      (first
        | (go_at_call 18; refine (toProfile_any P _ _ ((HV.out.below b3).below T7.drew) hs').mono ?_; rintro e w8 ⟨v8, rfl, hc8, hb8⟩; have s8 : w7.heap.size ≤ w8.heap.size := by (have := hb8.size; simpa using this))
        | (go_at_call 20; refine (eqProfile_same P _ _ _ (HC7.out.lies.below ((Below.refl _ _).drew.trans (hb8.mono (by simp)))) hc8.lies).mono ?_; rintro e w9 ⟨rfl, hb9⟩))
    have e9 : Below w7.heap.size w7 w9 := ((Below.refl _ _).drew.trans (hb8.mono (by simp))).trans (hb9.mono s8)
    have O9 : Hid (w9.ownsRow W5.heap.size 98 2 (.slice ga (P.curveN a1) gc) (P.curveN a1) (pairs (Prof.curveAt a1) (P.curveSpeed a1) (P.curveN a1))) := ownsRow_below O7.out e9
    have T9 := T7.trans (e9.mono T7.size)
    have HC9 : Hid (P.Copied w3.heap.size w9 (.agg #[.slice (some ⟨g, 0, none⟩) P.np P.np, .slice (some ⟨h, 0, none⟩) P.nz P.nz, .int .i64 P.train, .int .i64 P.fin, .int .i64 P.delay])) := HC7.out.below e9
    have s9 := e9.size
    clear x0 x1 x2 x3 x4 y0 y1 y2 y3 y4 hb8 hb9 hc8
    go_wp2_with fail
    refine (markProfile_any P _ w3.heap.size _ _ HC9.out (by omega) (by omega)).mono ?_
    rintro e w10 ⟨g', h', k10, w0', rfl, ⟨hk10, _⟩, hv10, _, _, _, _, hG1, hG2⟩
    obtain ⟨rfl, rfl⟩ : g = g' ∧ h = h' := by simpa using hv10
    have T0 := T9.grown hG1 T9.size (fun k e => by have := Option.some.inj e; omega)
    have T10 := T0.grown hG2 T0.size (fun k e => by have := Option.some.inj e; omega)
    have O10 : Hid (w10.ownsRow W5.heap.size 98 2 (.slice ga (P.curveN a1) gc) (P.curveN a1) (pairs (Prof.curveAt a1) (P.curveSpeed a1) (P.curveN a1))) :=
      owned_grown (owned_grown O9.out hG1 (fun k e c => by have := ownsRow_block O9.out k c; have := Option.some.inj e; omega)) hG2 (fun k e c => by have := ownsRow_block O9.out k c; have := Option.some.inj e; omega)
    have s10 := T10.size
    clear hv10 hG1 hG2
    go_wp2_with fail
    refine (eqPointS_same _ _ _ _ _ _ _ _ (owned_row2 O10.out) (HW0.out.below T10) (by omega)).mono ?_
    rintro e w11 ⟨rfl, hb11⟩
    have T11 := T10.trans (hb11.mono T10.size)
    obtain ⟨gb, mm, hM, hgb1⟩ : ∃ gb mm, MRow w11 ga (P.curveN a1) 2 gb 98 mm ∧ W5.heap.size ≤ gb := by
      obtain ⟨a', c', gb, mm, hv, hM, hb, _⟩ := mrow_owned (ownsRow_below O10.out hb11)
      obtain ⟨rfl, rfl⟩ : ga = a' ∧ gc = c' := by simpa using hv
      rcases hb with h0 | h1
      · exact ⟨W5.heap.size, 0, Or.inl h0, Nat.le_refl _⟩
      · exact ⟨gb, mm, hM, h1⟩
    have HM : Hid (MRow w11 ga (P.curveN a1) 2 gb 98 mm) := hM
    clear hM hb11
    go_wp2_with fail
    refine (markPointS_any _ _ _ gb 98 mm _ _ HM.out (by omega) (by omega) (by omega)).mono ?_
    rintro e w12 ⟨rfl, hM12, hG12⟩
    have HM12 : Hid (Marked w12 ga (P.curveN a1) 2 gb 98 mm 1) := hM12
    have T12 := T11.grown hG12 T11.size (fun k e => by have := Option.some.inj e; have := T5.size; omega)
    have hB12 := HB3.out.below T12
    obtain ⟨x0, x1, x2, x3, x4⟩ := hB12
    clear hM12 hG12 HM
    go_wp2_with fail
    refine (heldPointS_any _ _ _ gb 98 mm _ _ HM12.out (by omega) (by omega) (by omega)).mono ?_
    rintro e w13 ⟨rfl, rfl⟩
    go_wp2_with fail
    refine (toProfile_any P _ _ ((HV.out.below b3).below T12) hs').mono ?_
    rintro e w14 ⟨v14, rfl, hc14, hb14⟩
    clear x0 x1 x2 x3 x4
    go_wp2_with fail
    refine (implCurve_any P _ _ _ hc14.lies hst).mono ?_
    rintro e w15 ⟨u15, rfl, hg15, hb15⟩
    obtain ⟨ha, hc, rfl, _, _, _⟩ := owned_shape hg15
    have O15 : Hid (w15.ownsRow w14.heap.size 98 2 (.slice ha (P.curveN a1) hc) (P.curveN a1) (pairs (Prof.curveAt a1) (P.curveSpeed a1) (P.curveN a1))) := hg15
    have e15 := hb14.trans (hb15.mono hb14.size)
    have T15 := T12.trans (e15.mono T12.size)
    clear hg15 hb14 hb15 hc14
    go_wp2_with fail
    refine (eqPointS_same _ _ _ _ _ _ _ _ (owned_row2 O15.out) (HW0.out.below T15) (by omega)).mono ?_
    rintro e w16 ⟨rfl, hb16⟩
    have e16 := e15.trans (hb16.mono e15.size)
    have T16 := T12.trans (e16.mono T12.size)
    clear hb16
    go_wp2_with fail
    refine (heldPointS_any _ _ _ gb 98 mm _ _ (HM12.out.below e16) (by omega) (by omega) (by omega)).mono ?_
    rintro e w17 ⟨rfl, rfl⟩
    go_wp2
    go_ret
    exact ⟨rfl, b3.trans (T16.mono b3.size)⟩

set_option maxRecDepth 100000 in
theorem lifted (os : Os) (started : os.Started) (H : Type) (enc : TypeId × Value → H) :
    ReturnsInHanded {} Try.checked os 10 .any (Rows.fnExactCurveSpec.pre6 enc Try.prog Try.f10 Rows.fnExactCurveRow.domain false) (Rows.fnExactCurveSpec.post enc Try.prog Try.f10 false true false false) := by
  refine returnsInHanded_of_change (C := Try.checked) own started (by kernel_rfl) Try.func10
    (ChangeSpec.witness6 (enc := enc) (C := Try.checked) false ⟨#[], #[.agg #[.slice none 0 0, .slice none 0 0, .int .i64 0, .int .i64 0, .int .i64 0], .int .i64 0], []⟩ 8 (by kernel_rfl) (by kernel_rfl) (by kernel_rfl) (by kernel_rfl)) ?_
  intro W base args ds gs before hval0 hW hcnd _
  have hval : ∀ (j : Nat) t v, Try.f10.params[j]? = some t → args[j]? = some v → Value.okWide Try.prog W .any base t v := hval0
  have hW' := hW
  obtain ⟨p, q, hA0, hV, rfl, hfz, hnd⟩ := hW
  have hA : DataW.TrodAll enc Try.prog W 0 (fun _ => true) true Try.f10.params.toList args.toList ds p := hA0
  rw [Try.params10] at hA hval
  obtain ⟨v0, vs0, d0, ds0, p0, q0, hargs, rfl, rfl, h0, r0⟩ := trodAll_cons hA
  obtain ⟨v1, vs1, d1, ds1, p1, q1, rfl, rfl, rfl, h1, r1⟩ := trodAll_cons r0
  obtain ⟨rfl, rfl, rfl⟩ := trodAll_nil r1
  obtain rfl : args = #[v0, v1] := by cases args; simp_all
  obtain ⟨rfl, rfl⟩ := trodVars_none hV
  have k0 := h0
  have lt0 : ∀ x ∈ p0, x.block < W.heap.size := by obtain ⟨m, hm⟩ := k0; exact DataW.trod_lt m _ _ _ hm
  obtain ⟨P, hl⟩ := open_profile (hval 0 27 v0 rfl rfl) h0
  obtain ⟨a1, rfl, rfl, rfl, w1⟩ := open_int Try.underlying3 (hval 1 3 v1 rfl rfl) h1
  clear hA0 hval0
  refine (walk P _ a1 w1 W hl).mono fun e W' ⟨he, bel⟩ => ?_
  subst he
  exact ⟨_, rfl, _, _, _, [], _, [], hW', trodAll_mk1 (shut_bool Try.underlying4 _), (trodAll_cons_mk (Below.trod laidOut (by kernel_rfl) (of_decide_eq_true (by kernel_rfl)) k0 bel lt0) (trodAll_cons_mk (shut_int Try.underlying3 w1) trodAll_mk0)), rfl, bel.frame _, fun h => by cases h⟩

theorem over : Rows.fnExactCurveRow.holds Try.pinned (OpenSpec.ofChange Rows.fnExactCurveSpec) :=
  OpenClaim.holds_of_wide 10 Try.f10 rfl rfl rfl rfl rfl rfl rfl ⟨rfl, rfl, rfl, rfl, rfl⟩ rfl rfl rfl rfl rfl (by kernel_rfl) Try.func10 (by kernel_rfl)
    (of_decide_eq_true (by kernel_rfl)) (by unfold Func.isWrapper; first | (rw [if_pos (by decide +kernel)]; kernel_rfl) | (rw [if_neg (by decide +kernel)]; exact ⟨rfl, rfl⟩))
    (fun os started H enc _ => lifted os started H enc)
end Go.Proofs.Yteodefmpkljedab.fnExactCurve

namespace Go.Proofs.Yteodefmpkljedab
theorem fnExactCurve_holds : Rows.FnExactCurveSaid := fnExactCurve.over
#print axioms fnExactCurve_holds
end Go.Proofs.Yteodefmpkljedab
