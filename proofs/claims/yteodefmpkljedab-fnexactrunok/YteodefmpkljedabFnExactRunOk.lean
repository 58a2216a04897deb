/-
  The walk of FnExactRunOk, laid into a frame of the template's make.
-/
import Derived.Test.YteodefmpkljedabRows
import Derived.Test.YteodefmpkljedabOpenProf
import Derived.Test.YteodefmpkljedabSpecRun
import Derived.Test.YteodefmpkljedabTrip3
import Derived.Test.YteodefmpkljedabLawEq
import Derived.Test.YteodefmpkljedabLawInts
import Derived.Deep.RegionHeld3
import Derived.ProofKit
import Derived.OpenShut
import Derived.ChangeOld
import Derived.Below
namespace Go.Proofs.Yteodefmpkljedab.fnExactRunOk
open Go.ChangeShapes Go.WideShapes Go.ChangeAt Go.RowKit
set_option linter.unusedVariables false

theorem own : ownKnob Try.prog.godebug = none := by kernel_rfl
theorem laidOut : laidOutB Try.prog = true := by kernel_rfl



set_option maxHeartbeats 8000000 in
theorem walk (P : Prof) (v : Value) (a1 : Int) (w1 : (Lit.int .i64 a1).wf = true) (a2 : Int) (w2 : (Lit.int .i64 a2).wf = true) (a3 : Int) (w3 : (Lit.int .i64 a3).wf = true) (s4 : Option Addr) (n4 c4 : Nat) (z4 : Nat → Int) (hn4 : n4 ≤ 9223372036854775807) (w : World) (hl : P.Lies w v) (hz4 : Row1 w s4 n4 z4) :
    Calls Try.prog 13 #[v, .int .i64 a1, .int .i64 a2, .int .i64 a3, .slice s4 n4 c4] w fun e w' => e = .returned (.bool true) ∧ Below w.heap.size w w' := by
  have HV : Hid (P.Lies w v) := hl
  have HZ : Hid (Row1 w s4 n4 z4) := hz4
  clear hz4
  obtain ⟨o, HS, HI⟩ : ∃ o : Bool, Hid (∀ (v : Value) (a : Option Addr) (c : Nat) (w : World), P.Lies w v → Row1 w a n4 z4 → Calls Try.prog 50 #[v, .int .i64 a1, .int .i64 a2, .int .i64 a3, .slice a n4 c] w fun e w' => e = .returned (.bool o) ∧ Below w.heap.size w w') ∧
      Hid (∀ (v : Value) (a : Option Addr) (c : Nat) (w : World), P.Lies w v → Row1 w a n4 z4 → Calls Try.prog 51 #[v, .int .i64 a1, .int .i64 a2, .int .i64 a3, .slice a n4 c] w fun e w' => e = .returned (.bool o) ∧ Below w.heap.size w w') :=
    ⟨_, fun v a c w hl hz => specRunOk_any P v a1 a2 a3 a n4 c z4 w hl hz hn4, fun v a c w hl hz => implRunOk_any P v a1 a2 a3 a n4 c z4 w hl hz hn4⟩
  by_cases h5 : 1048576 < n4
  · obtain ⟨ap, cp, az, cz, rfl, hn, hn', hr2, hr3⟩ := hl
    clear hr2 hr3
    go_enter Try.func13, Try.ntmps13
    go_wp2
    go_ret
    exact ⟨rfl, ((Below.refl _ _).alloc (Nat.le_refl _) _)⟩
  have h5' : n4 ≤ 1048576 := by omega
  by_cases hs : 1048576 < P.np + P.nz
  · obtain ⟨ap, cp, az, cz, rfl, hn, hn', hr2, hr3⟩ := hl
    clear hr2 hr3
    go_enter Try.func13, Try.ntmps13
    go_wp2_with (go_at_call 16; refine (szProfile_no P _ _ (HV.out.below ((Below.refl _ _).alloc (Nat.le_refl _) _)) hs).mono ?_; rintro e w1 ⟨rfl, hb1⟩)
    go_ret
    exact ⟨rfl, ((Below.refl _ _).alloc (Nat.le_refl _) _).trans (hb1.mono (by simp))⟩
  · have hs' : P.np + P.nz ≤ 1048576 := by omega
    clear hs h5
    obtain ⟨ap, cp, az, cz, rfl, hn, hn', hr2, hr3⟩ := hl
    clear hr2 hr3
    go_enter Try.func13, Try.ntmps13
    go_wp2_with fail
    generalize hW : w.alloc _ = W
    have bW : Below w.heap.size w W := by rw [← hW]; exact (Below.refl _ _).alloc (Nat.le_refl _) _
    have hbox : P.BoxAt W w.heap.size ap az cp cz := by subst hW; exact ⟨by go_simp, by go_simp, by go_simp, by go_simp, by go_simp⟩
    clear hW
    refine (szProfile_yes P _ _ (HV.out.below bW) hs').mono ?_
    rintro e w1 ⟨m, rfl, m0, m1, hb1⟩
    have b1 := bW.trans (hb1.mono bW.size)
    replace hbox := hbox.below hb1
    have HBX : Hid (P.BoxAt w1 w.heap.size ap az cp cz) := hbox
    obtain ⟨x0, x1, x2, x3, x4⟩ := hbox
    clear hb1 bW
    go_wp2_with fail
    refine (toProfile_any P _ _ (HV.out.below b1) hs').mono ?_
    rintro e w2 ⟨v2, rfl, hc2, hb2⟩
    have b2 := b1.trans (hb2.mono b1.size)
    have HB2 : Hid (P.BoxAt w2 w.heap.size ap az cp cz) := HBX.out.below hb2
    clear x0 x1 x2 x3 x4 hb2
    go_wp2_with fail
    refine (toIntS_any _ _ _ _ _ (HZ.out.below b2) h5').mono ?_
    rintro e w2' ⟨g2, rfl, _, hr2, hb2'⟩
    have b2' := b2.trans (hb2'.mono b2.size)
    have HB2' : Hid (P.BoxAt w2' w.heap.size ap az cp cz) := HB2.out.below hb2'
    replace hc2 := hc2.below hb2'
    clear hb2'
    go_wp2_with fail
    refine (HS.out _ _ _ _ hc2.lies (row1_of hr2)).mono ?_
    rintro e w3 ⟨rfl, hb3⟩
    have b3 := b2'.trans (hb3.mono b2'.size)
    have HB3 : Hid (P.BoxAt w3 w.heap.size ap az cp cz) := HB2'.out.below hb3
    have hbox3 := HB3.out
    obtain ⟨x0, x1, x2, x3, x4⟩ := hbox3
    clear hb3 hc2 hr2
    go_wp2_with fail
    refine (toProfile_any P _ _ (HV.out.below b3) hs').mono ?_
    rintro e w4 ⟨v4, rfl, hc4, hb4⟩
    have b4 := b3.trans (hb4.mono b3.size)
    have HB4 : Hid (P.BoxAt w4 w.heap.size ap az cp cz) := HB3.out.below hb4
    have HC4 : Hid (P.Copied w3.heap.size w4 v4) := hc4
    obtain ⟨g, h, rfl, _, _, _, _, hrow1, hrow2⟩ := hc4
    clear x0 x1 x2 x3 x4 hb4 hrow1 hrow2
    go_wp2_with fail
    obtain ⟨zb, hzb⟩ : ∃ zb, w4.heap.size = zb := ⟨_, rfl⟩
    rw [hzb]
    generalize hW5 : w4.alloc _ = W5
    have bq : Below w4.heap.size w4 W5 := by rw [← hW5]; exact (Below.refl _ _).alloc (Nat.le_refl _) _
    have b5 := b4.trans (bq.mono b4.size)
    have s5 : zb < W5.heap.size := by rw [← hW5, ← hzb]; simp
    have hX5 : P.BoxAt W5 zb (some ⟨g, 0, none⟩) (some ⟨h, 0, none⟩) P.np P.nz := by subst hW5 hzb; exact ⟨by go_simp, by go_simp, by go_simp, by go_simp, by go_simp⟩
    have HB5 : Hid (P.BoxAt W5 w.heap.size ap az cp cz) := HB4.out.below bq
    have hc5 := HC4.out.below bq
    clear hW5 bq HC4
    refine (toIntS_any _ _ _ _ _ (HZ.out.below b5) h5').mono ?_
    rintro e w5 ⟨g5, rfl, hg5, hr5, hb5⟩
    have b5' := b5.trans (hb5.mono b5.size)
    have hX5' := hX5.below hb5
    have HX5 : Hid (P.BoxAt w5 zb (some ⟨g, 0, none⟩) (some ⟨h, 0, none⟩) P.np P.nz) := hX5'
    have HB5' : Hid (P.BoxAt w5 w.heap.size ap az cp cz) := HB5.out.below hb5
    have HC5 : Hid (P.Copied w3.heap.size w5 (.agg #[.slice (some ⟨g, 0, none⟩) P.np P.np, .slice (some ⟨h, 0, none⟩) P.nz P.nz, .int .i64 P.train, .int .i64 P.fin, .int .i64 P.delay])) := hc5.below hb5
    have HR5 : Hid (w5.rowIs g5 3 n4 (col1 z4)) := hr5
    obtain ⟨y0, y1, y2, y3, y4⟩ := hX5'
    clear hX5 hc5 hb5 hr5
    go_wp2_with fail
    refine (HI.out _ _ _ _ HC5.out.lies (row1_of HR5.out)).mono ?_
    rintro e w6 ⟨rfl, hb6⟩
    have b6 := b5'.trans (hb6.mono b5'.size)
    have HL6 : Hid (P.Lies w6 (.agg #[.slice (some ⟨g, 0, none⟩) P.np P.np, .slice (some ⟨h, 0, none⟩) P.nz P.nz, .int .i64 P.train, .int .i64 P.fin, .int .i64 P.delay])) := (HC5.out.below hb6).lies
    have HR6 : Hid (w6.rowIs g5 3 n4 (col1 z4)) := rowIs_below HR5.out hb6
    have hX6 := HX5.out.below hb6
    have hB6 := HB5'.out.below hb6
    have lw := hB6.lt
    have lz := hX6.lt
    clear y0 y1 y2 y3 y4
    obtain ⟨x0, x1, x2, x3, x4⟩ := hB6
    obtain ⟨y0, y1, y2, y3, y4⟩ := hX6
    have hne : (o != o) = false := by simp
    clear hb6 b5 b5' b4 b3 b2 b1
    go_wp2_with fail
    go_region_held3 (fun y => y.cell? ⟨w.heap.size, 0, none⟩ = some (.slice ap P.np cp) ∧ y.cell? ⟨w.heap.size, 1, none⟩ = some (.slice az P.nz cz) ∧ y.cell? ⟨w.heap.size, 2, none⟩ = some (.int .i64 P.train) ∧ y.cell? ⟨w.heap.size, 3, none⟩ = some (.int .i64 P.fin) ∧ y.cell? ⟨w.heap.size, 4, none⟩ = some (.int .i64 P.delay) ∧ y.cell? ⟨zb, 0, none⟩ = some (.slice (some ⟨g, 0, none⟩) P.np P.np) ∧ y.cell? ⟨zb, 1, none⟩ = some (.slice (some ⟨h, 0, none⟩) P.nz P.nz) ∧ y.cell? ⟨zb, 2, none⟩ = some (.int .i64 P.train) ∧ y.cell? ⟨zb, 3, none⟩ = some (.int .i64 P.fin) ∧ y.cell? ⟨zb, 4, none⟩ = some (.int .i64 P.delay)) (first | go_keep | (go_split_ands; refine ⟨?_, ?_, ?_, ?_, ?_, ?_, ?_, ?_, ?_, ?_⟩ <;> first | assumption | (rw [hb8.cell (by simp; omega)]; assumption) | (rw [hb7.cell (by simp; omega)]; assumption)))
      (first
        | (go_at_call 18; refine (toProfile_any P _ _ (HV.out.below b6.drew) hs').mono ?_; rintro e w7 ⟨v7, rfl, hc7, hb7⟩; have s7 : w6.heap.size ≤ w7.heap.size := by (have := hb7.size; simpa using this))
        | (go_at_call 20; refine (eqProfile_same P _ _ _ (HL6.out.below ((Below.refl _ _).drew.trans (hb7.mono (by simp)))) hc7.lies).mono ?_; rintro e w8 ⟨rfl, hb8⟩))
    have e8 : Below w6.heap.size w6 w8 := ((Below.refl _ _).drew.trans (hb7.mono (by simp))).trans (hb8.mono s7)
    have b8 := b6.trans (e8.mono b6.size)
    have HR8 : Hid (w8.rowIs g5 3 n4 (col1 z4)) := rowIs_below HR6.out e8
    clear x0 x1 x2 x3 x4 y0 y1 y2 y3 y4 hb7 hb8 hc7 e8
    go_wp2_with fail
    refine (toIntS_any _ _ _ _ _ (HZ.out.below b8) h5').mono ?_
    rintro e w10 ⟨g10, rfl, _, hr10, hb10⟩
    have HR10 : Hid (w10.rowIs g10 3 n4 (col1 z4)) := hr10
    clear hr10
    go_wp2_with fail
    refine (eqIntS_same _ _ _ _ _ z4 _ (row1_of (rowIs_below HR8.out hb10)) (row1_of HR10.out) hn4).mono ?_
    rintro e w11 ⟨rfl, hb11⟩
    have e11 := hb10.trans (hb11.mono hb10.size)
    have b11 := b8.trans (e11.mono b8.size)
    go_wp2
    go_ret
    exact ⟨rfl, b11⟩

set_option maxRecDepth 100000 in
theorem lifted (os : Os) (started : os.Started) (H : Type) (enc : TypeId × Value → H) :
    ReturnsInHanded {} Try.checked os 13 .any (Rows.fnExactRunOkSpec.pre6 enc Try.prog Try.f13 Rows.fnExactRunOkRow.domain false) (Rows.fnExactRunOkSpec.post enc Try.prog Try.f13 false true false false) := by
  refine returnsInHanded_of_change (C := Try.checked) own started (by kernel_rfl) Try.func13
    (ChangeSpec.witness6 (enc := enc) (C := Try.checked) false ⟨#[], #[.agg #[.slice none 0 0, .slice none 0 0, .int .i64 0, .int .i64 0, .int .i64 0], .int .i64 0, .int .i64 0, .int .i64 0, .slice none 0 0], []⟩ 8 (by kernel_rfl) (by kernel_rfl) (by kernel_rfl) (by kernel_rfl)) ?_
  intro W base args ds gs before hval0 hW hcnd _
  have hval : ∀ (j : Nat) t v, Try.f13.params[j]? = some t → args[j]? = some v → Value.okWide Try.prog W .any base t v := hval0
  have hW' := hW
  obtain ⟨p, q, hA0, hV, rfl, hfz, hnd⟩ := hW
  have hA : DataW.TrodAll enc Try.prog W 0 (fun _ => true) true Try.f13.params.toList args.toList ds p := hA0
  rw [Try.params13] at hA hval
  obtain ⟨v0, vs0, d0, ds0, p0, q0, hargs, rfl, rfl, h0, r0⟩ := trodAll_cons hA
  obtain ⟨v1, vs1, d1, ds1, p1, q1, rfl, rfl, rfl, h1, r1⟩ := trodAll_cons r0
  obtain ⟨v2, vs2, d2, ds2, p2, q2, rfl, rfl, rfl, h2, r2⟩ := trodAll_cons r1
  obtain ⟨v3, vs3, d3, ds3, p3, q3, rfl, rfl, rfl, h3, r3⟩ := trodAll_cons r2
  obtain ⟨v4, vs4, d4, ds4, p4, q4, rfl, rfl, rfl, h4, r4⟩ := trodAll_cons r3
  obtain ⟨rfl, rfl, rfl⟩ := trodAll_nil r4
  obtain rfl : args = #[v0, v1, v2, v3, v4] := by cases args; simp_all
  obtain ⟨rfl, rfl⟩ := trodVars_none hV
  have k0 := h0
  have lt0 : ∀ x ∈ p0, x.block < W.heap.size := by obtain ⟨m, hm⟩ := k0; exact DataW.trod_lt m _ _ _ hm
  obtain ⟨P, hl⟩ := open_profile (hval 0 27 v0 rfl rfl) h0
  obtain ⟨a1, rfl, rfl, rfl, w1⟩ := open_int Try.underlying3 (hval 1 3 v1 rfl rfl) h1
  obtain ⟨a2, rfl, rfl, rfl, w2⟩ := open_int Try.underlying3 (hval 2 3 v2 rfl rfl) h2
  obtain ⟨a3, rfl, rfl, rfl, w3⟩ := open_int Try.underlying3 (hval 3 3 v3 rfl rfl) h3
  have k4 := h4
  have lt4 : ∀ x ∈ p4, x.block < W.heap.size := by obtain ⟨m, hm⟩ := k4; exact DataW.trod_lt m _ _ _ hm
  obtain ⟨s4, n4, c4, z4, rfl, hn4, hz4⟩ := open_intS (hval 4 46 v4 rfl rfl) h4
  clear hA0 hval0
  refine (walk P _ a1 w1 a2 w2 a3 w3 s4 n4 c4 z4 hn4 W hl hz4).mono fun e W' ⟨he, bel⟩ => ?_
  subst he
  exact ⟨_, rfl, _, _, _, [], _, [], hW', trodAll_mk1 (shut_bool Try.underlying4 _), (trodAll_cons_mk (Below.trod laidOut (by kernel_rfl) (of_decide_eq_true (by kernel_rfl)) k0 bel lt0) (trodAll_cons_mk (shut_int Try.underlying3 w1) (trodAll_cons_mk (shut_int Try.underlying3 w2) (trodAll_cons_mk (shut_int Try.underlying3 w3) (trodAll_cons_mk (Below.trod laidOut (by kernel_rfl) (of_decide_eq_true (by kernel_rfl)) k4 bel lt4) trodAll_mk0))))), rfl, bel.frame _, fun h => by cases h⟩

theorem over : Rows.fnExactRunOkRow.holds Try.pinned (OpenSpec.ofChange Rows.fnExactRunOkSpec) :=
  OpenClaim.holds_of_wide 13 Try.f13 rfl rfl rfl rfl rfl rfl rfl ⟨rfl, rfl, rfl, rfl, rfl⟩ rfl rfl rfl rfl rfl (by kernel_rfl) Try.func13 (by kernel_rfl)
    (of_decide_eq_true (by kernel_rfl)) (by unfold Func.isWrapper; first | (rw [if_pos (by decide +kernel)]; kernel_rfl) | (rw [if_neg (by decide +kernel)]; exact ⟨rfl, rfl⟩))
    (fun os started H enc _ => lifted os started H enc)
end Go.Proofs.Yteodefmpkljedab.fnExactRunOk

namespace Go.Proofs.Yteodefmpkljedab
theorem fnExactRunOk_holds : Rows.FnExactRunOkSaid := fnExactRunOk.over
#print axioms fnExactRunOk_holds
end Go.Proofs.Yteodefmpkljedab
