/-
  The walk of FnExactFastest, laid into a frame of the template's make.
-/
import Derived.Test.YteodefmpkljedabRows
import Derived.Test.YteodefmpkljedabOpenProf
import Derived.Test.YteodefmpkljedabSpecFast
import Derived.Test.YteodefmpkljedabImplFast
import Derived.Test.YteodefmpkljedabLawEq
import Derived.Test.YteodefmpkljedabLawInts
import Derived.Test.YteodefmpkljedabLawRun
import Derived.Deep.RegionHeld3
import Derived.ProofKit
import Derived.OpenShut
import Derived.ChangeOld
import Derived.Below
namespace Go.Proofs.Yteodefmpkljedab.fnExactFastest
open Go.ChangeShapes Go.WideShapes Go.ChangeAt Go.RowKit
set_option linter.unusedVariables false

theorem own : ownKnob Try.prog.godebug = none := by kernel_rfl
theorem laidOut : laidOutB Try.prog = true := by kernel_rfl



set_option maxHeartbeats 12000000 in
theorem walk (P : Prof) (v : Value) (a1 : Int) (w1 : (Lit.int .i64 a1).wf = true) (a2 : Int) (w2 : (Lit.int .i64 a2).wf = true) (a3 : Int) (w3 : (Lit.int .i64 a3).wf = true) (w : World) (hl : P.Lies w v) :
    Calls Try.prog 12 #[v, .int .i64 a1, .int .i64 a2, .int .i64 a3] w fun e w' => e = .returned (.bool true) ∧ Below w.heap.size w w' := by
  have HV : Hid (P.Lies w v) := hl
  obtain ⟨o, N, f, hN, HS, HI⟩ : ∃ (o : Bool) (N : Nat) (f : Nat → Int), N ≤ 2000 ∧
      Hid (∀ (v : Value) (w : World), P.Lies w v → Calls Try.prog 45 #[v, .int .i64 a1, .int .i64 a2, .int .i64 a3] w fun e w' => ∃ a c, e = .returned (.agg #[.bool o, .int .i64 N, .slice a N c]) ∧ w'.ownsRow (w.heap.size + 1) 3 1 (.slice a N c) N (singles f N) ∧ Below w.heap.size w w') ∧
      Hid (∀ (v : Value) (w : World), P.Lies w v → Calls Try.prog 46 #[v, .int .i64 a1, .int .i64 a2, .int .i64 a3] w fun e w' => ∃ a c, e = .returned (.agg #[.bool o, .int .i64 N, .slice a N c]) ∧ w'.ownsRow w.heap.size 3 1 (.slice a N c) N (singles f N) ∧ Below w.heap.size w w') :=
    few_all.elim fun Fw => ⟨_, _, _, Fw.runN_le P a1 a2 a3, fun v w hl => specFastest_any P v a1 a2 a3 w hl, fun v w hl => implFastest_any P v a1 a2 a3 w hl⟩
  by_cases hs : 1048576 < P.np + P.nz
  · obtain ⟨ap, cp, az, cz, rfl, hn, hn', hr2, hr3⟩ := hl
    clear hr2 hr3
    go_enter Try.func12, Try.ntmps12
    go_wp2_with (go_at_call 16; refine (szProfile_no P _ _ (HV.out.below ((Below.refl _ _).alloc (Nat.le_refl _) _)) hs).mono ?_; rintro e w1 ⟨rfl, hb1⟩)
    go_ret
    exact ⟨rfl, ((Below.refl _ _).alloc (Nat.le_refl _) _).trans (hb1.mono (by simp))⟩
  · have hs' : P.np + P.nz ≤ 1048576 := by omega
    clear hs
    obtain ⟨ap, cp, az, cz, rfl, hn, hn', hr2, hr3⟩ := hl
    clear hr2 hr3
    go_enter Try.func12, Try.ntmps12
    go_wp2_with fail
    generalize hW : w.alloc _ = W
    have bW : Below w.heap.size w W := by rw [← hW]; exact (Below.refl _ _).alloc (Nat.le_refl _) _
    have hbox : P.BoxAt W w.heap.size ap az cp cz := by subst hW; exact ⟨by go_simp, by go_simp, by go_simp, by go_simp, by go_simp⟩
    clear hW
    refine (szProfile_yes P _ _ (HV.out.below bW) hs').mono ?_
    rintro e w1 ⟨m, rfl, m0, m1, hb1⟩
    have b1 := bW.trans (hb1.mono bW.size)
    replace hbox := hbox.below hb1
    have HBX : Hid (P.BoxAt w1 w.heap.size ap az cp cz) := hbox
    obtain ⟨x0, x1, x2, x3, x4⟩ := hbox
    clear hb1 bW
    go_wp2_with fail
    refine (toProfile_any P _ _ (HV.out.below b1) hs').mono ?_
    rintro e w2 ⟨v2, rfl, hc2, hb2⟩
    have b2 := b1.trans (hb2.mono b1.size)
    have HB2 : Hid (P.BoxAt w2 w.heap.size ap az cp cz) := HBX.out.below hb2
    clear x0 x1 x2 x3 x4 hb2
    go_wp2_with fail
    refine (HS.out _ _ hc2.lies).mono ?_
    rintro e w3 ⟨sa, sc, rfl, hw3, hb3⟩
    have b3 := b2.trans (hb3.mono b2.size)
    have HB3 : Hid (P.BoxAt w3 w.heap.size ap az cp cz) := HB2.out.below hb3
    have lw := HB3.out.lt
    obtain ⟨W3, hW3⟩ : ∃ W3, w3.alloc (.cells #[.bool o, .int .i64 N, .slice sa N sc] 57) = W3 := ⟨_, rfl⟩
    have bx3 : Below w3.heap.size w3 W3 := by rw [← hW3]; exact (Below.refl _ _).alloc (Nat.le_refl _) _
    have B3 := b3.trans (bx3.mono b3.size)
    have hwb : RBox W3 w3.heap.size o sa N sc := by subst hW3; exact ⟨by go_simp, by go_simp, by go_simp⟩
    have HWB : Hid (RBox W3 w3.heap.size o sa N sc) := hwb
    have lb := hwb.lt
    have HW0 : Hid (Row1 W3 sa N f) := (owned_row1 hw3).below bx3
    have HB : Hid (P.BoxAt W3 w.heap.size ap az cp cz) := HB3.out.below bx3
    have hbox3 := HB.out
    obtain ⟨x0, x1, x2, x3, x4⟩ := hbox3
    clear hb3 hc2 hw3 hwb bx3 b3 HB3 b2 b1 HBX HB2
    go_wp2_with fail
    clear x0 x1 x2 x3 x4 hW3
    refine (toProfile_any P _ _ (HV.out.below B3) hs').mono ?_
    rintro e w4 ⟨v4, rfl, hc4, hb4⟩
    have T4 : Below W3.heap.size W3 w4 := hb4
    have HC4 : Hid (P.Copied W3.heap.size w4 v4) := hc4
    obtain ⟨g, h, rfl, hgb, hgh, _, _, hrow1, hrow2⟩ := hc4
    have gl := hrow1.lt
    have hl := hrow2.lt
    clear hb4 hrow1 hrow2
    go_wp2_with fail
    obtain ⟨zb, hzb⟩ : ∃ zb, w4.heap.size = zb := ⟨_, rfl⟩
    rw [hzb]
    generalize hW5 : w4.alloc _ = W5
    have bq : Below w4.heap.size w4 W5 := by rw [← hW5]; exact (Below.refl _ _).alloc (Nat.le_refl _) _
    have T5 := T4.trans (bq.mono T4.size)
    have s5 : zb < W5.heap.size := by rw [← hW5, ← hzb]; simp
    have hX5 : P.BoxAt W5 zb (some ⟨g, 0, none⟩) (some ⟨h, 0, none⟩) P.np P.nz := by subst hW5 hzb; exact ⟨by go_simp, by go_simp, by go_simp, by go_simp, by go_simp⟩
    have hc5 := HC4.out.below bq
    clear hW5 bq HC4
    have HX5 : Hid (P.BoxAt W5 zb (some ⟨g, 0, none⟩) (some ⟨h, 0, none⟩) P.np P.nz) := hX5
    have HC5 : Hid (P.Copied W3.heap.size W5 (.agg #[.slice (some ⟨g, 0, none⟩) P.np P.np, .slice (some ⟨h, 0, none⟩) P.nz P.nz, .int .i64 P.train, .int .i64 P.fin, .int .i64 P.delay])) := hc5
    clear hX5 hc5
    refine (HI.out _ _ HC5.out.lies).mono ?_
    rintro e w6 ⟨ga, gc, rfl, hg6, hb6⟩
    obtain ⟨qb, hqb⟩ : ∃ qb, w6.heap.size = qb := ⟨_, rfl⟩
    obtain ⟨W6, hW6⟩ : ∃ W6, w6.alloc (.cells #[.bool o, .int .i64 N, .slice ga N gc] 57) = W6 := ⟨_, rfl⟩
    have bx6 : Below w6.heap.size w6 W6 := by rw [← hW6]; exact (Below.refl _ _).alloc (Nat.le_refl _) _
    have e6 := hb6.trans (bx6.mono hb6.size)
    have T6 := T5.trans (e6.mono T5.size)
    have O6 : Hid (w6.ownsRow W5.heap.size 3 1 (.slice ga N gc) N (singles f N)) := hg6
    have OW6 : Hid (W6.ownsRow W5.heap.size 3 1 (.slice ga N gc) N (singles f N)) := ownsRow_below hg6 bx6
    have hq6 : RBox W6 qb o ga N gc := by subst hW6 hqb; exact ⟨by go_simp, by go_simp, by go_simp⟩
    have HQ6 : Hid (RBox W6 qb o ga N gc) := hq6
    have lq := hq6.lt
    have HX6 : Hid (P.BoxAt W6 zb (some ⟨g, 0, none⟩) (some ⟨h, 0, none⟩) P.np P.nz) := HX5.out.below e6
    have HC6 : Hid (P.Copied W3.heap.size W6 (.agg #[.slice (some ⟨g, 0, none⟩) P.np P.np, .slice (some ⟨h, 0, none⟩) P.nz P.nz, .int .i64 P.train, .int .i64 P.fin, .int .i64 P.delay])) := HC5.out.below e6
    have s6 := hb6.size
    obtain ⟨q0, q1, q2⟩ := hq6
    have hw6 := HWB.out.below T6 lb
    obtain ⟨p0, p1, p2⟩ := hw6
    clear hb6 hg6 bx6 e6
    go_wp2_with fail
    clear q0 q1 q2 p0 p1 p2 hW6
    refine (eqRun_same _ _ _ _ _ _ f _ (owned_row1 OW6.out) (HW0.out.below T6) (by omega)).mono ?_
    rintro e w7 ⟨rfl, hb7⟩
    have O7 : Hid (w7.ownsRow W5.heap.size 3 1 (.slice ga N gc) N (singles f N)) := ownsRow_below OW6.out hb7
    have T7 := T6.trans (hb7.mono T6.size)
    have HQ7 : Hid (RBox w7 qb o ga N gc) := HQ6.out.below hb7 lq
    have HC7 : Hid (P.Copied W3.heap.size w7 (.agg #[.slice (some ⟨g, 0, none⟩) P.np P.np, .slice (some ⟨h, 0, none⟩) P.nz P.nz, .int .i64 P.train, .int .i64 P.fin, .int .i64 P.delay])) := HC6.out.below hb7
    have hX7 := HX6.out.below hb7
    have hB7 := HB.out.below T7
    have lz := hX7.lt
    have s7 := hb7.size
    obtain ⟨x0, x1, x2, x3, x4⟩ := hB7
    obtain ⟨y0, y1, y2, y3, y4⟩ := hX7
    clear hb7
    go_wp2_with fail
    go_region_held3 (fun y => y.cell? ⟨w.heap.size, 0, none⟩ = some (.slice ap P.np cp) ∧ y.cell? ⟨w.heap.size, 1, none⟩ = some (.slice az P.nz cz) ∧ y.cell? ⟨w.heap.size, 2, none⟩ = some (.int .i64 P.train) ∧ y.cell? ⟨w.heap.size, 3, none⟩ = some (.int .i64 P.fin) ∧ y.cell? ⟨w.heap.size, 4, none⟩ = some (.int .i64 P.delay) ∧ y.cell? ⟨zb, 0, none⟩ = some (.slice (some ⟨g, 0, none⟩) P.np P.np) ∧ y.cell? ⟨zb, 1, none⟩ = some (.slice (some ⟨h, 0, none⟩) P.nz P.nz) ∧ y.cell? ⟨zb, 2, none⟩ = some (.int .i64 P.train) ∧ y.cell? ⟨zb, 3, none⟩ = some (.int .i64 P.fin) ∧ y.cell? ⟨zb, 4, none⟩ = some (.int .i64 P.delay)) (first | go_keep | (go_split_ands; refine ⟨?_, ?_, ?_, ?_, ?_, ?_, ?_, ?_, ?_, ?_⟩ <;> first | assumption | (rw [hb9.cell (by simp; omega)]; assumption) | (rw [hb8.cell (by simp; omega)]; assumption)))
      (first
        | (go_at_call 18; refine (toProfile_any P _ _ ((HV.out.below B3).below T7.drew) hs').mono ?_; rintro e w8 ⟨v8, rfl, hc8, hb8⟩; have s8 : w7.heap.size ≤ w8.heap.size := by (have := hb8.size; simpa using this))
        | (go_at_call 20; refine (eqProfile_same P _ _ _ (HC7.out.lies.below ((Below.refl _ _).drew.trans (hb8.mono (by simp)))) hc8.lies).mono ?_; rintro e w9 ⟨rfl, hb9⟩))
    have e9 : Below w7.heap.size w7 w9 := ((Below.refl _ _).drew.trans (hb8.mono (by simp))).trans (hb9.mono s8)
    have O9 : Hid (w9.ownsRow W5.heap.size 3 1 (.slice ga N gc) N (singles f N)) := ownsRow_below O7.out e9
    have T9 := T7.trans (e9.mono T7.size)
    have HC9 : Hid (P.Copied W3.heap.size w9 (.agg #[.slice (some ⟨g, 0, none⟩) P.np P.np, .slice (some ⟨h, 0, none⟩) P.nz P.nz, .int .i64 P.train, .int .i64 P.fin, .int .i64 P.delay])) := HC7.out.below e9
    have HQ9 : Hid (RBox w9 qb o ga N gc) := HQ7.out.below e9 HQ7.out.lt
    have hX9 : Hid (P.BoxAt w9 zb (some ⟨g, 0, none⟩) (some ⟨h, 0, none⟩) P.np P.nz) := by
      have : P.BoxAt w7 zb (some ⟨g, 0, none⟩) (some ⟨h, 0, none⟩) P.np P.nz := ⟨y0, y1, y2, y3, y4⟩
      exact this.below e9
    have s9 := e9.size
    clear x0 x1 x2 x3 x4 y0 y1 y2 y3 y4 hb8 hb9 hc8 e9
    obtain ⟨y0, y1, y2, y3, y4⟩ := hX9.out
    go_wp2_with fail
    refine (markProfile_any P _ W3.heap.size _ _ HC9.out (by omega) (by omega)).mono ?_
    rintro e w12 ⟨g', h', k12, w0', rfl, ⟨hk12, hk12'⟩, hv12, _, _, _, _, hG1, hG2⟩
    obtain ⟨rfl, rfl⟩ : g = g' ∧ h = h' := by simpa using hv12
    have T0 := T9.grown hG1 T9.size (fun k e => by have := Option.some.inj e; omega)
    have T12 := T0.grown hG2 T0.size (fun k e => by have := Option.some.inj e; omega)
    have O12 : Hid (w12.ownsRow W5.heap.size 3 1 (.slice ga N gc) N (singles f N)) :=
      owned_grown (owned_grown O9.out hG1 (fun k e c => by have := ownsRow_block O9.out k c; have := Option.some.inj e; omega)) hG2 (fun k e c => by have := ownsRow_block O9.out k c; have := Option.some.inj e; omega)
    have HQ12 : Hid (RBox w12 qb o ga N gc) := (HQ9.out.grown hG1 (fun e => by have := Option.some.inj e; omega)).grown hG2 (fun e => by have := Option.some.inj e; omega)
    have s12 := T12.size
    clear hv12 hG1 hG2 y0 y1 y2 y3 y4
    have T13 := T12
    have O13 := O12
    have HQ13 := HQ12
    have hq13 := HQ12.out
    obtain ⟨q0, q1, q2⟩ := hq13
    have hw13 := HWB.out.below T13 lb
    obtain ⟨p0, p1, p2⟩ := hw13
    go_wp2_with fail
    refine (eqRun_same _ _ _ _ _ _ f _ (owned_row1 O13.out) (HW0.out.below T13) (by omega)).mono ?_
    rintro e w14 ⟨rfl, hb14⟩
    have T14 := T13.trans (hb14.mono T13.size)
    have O14 : Hid (w14.ownsRow W5.heap.size 3 1 (.slice ga N gc) N (singles f N)) := ownsRow_below O13.out hb14
    have hq14 := HQ13.out.below hb14 HQ13.out.lt
    have HQ14 : Hid (RBox w14 qb o ga N gc) := hq14
    obtain ⟨gb, mm, hM, hgb1, hgb2⟩ : ∃ gb mm, MRow w14 ga N 1 gb 3 mm ∧ W3.heap.size ≤ gb ∧ gb < qb := by
      obtain ⟨a', c', gb, mm, hv, hM, hb, _⟩ := mrow_owned O14.out
      obtain ⟨rfl, rfl⟩ : ga = a' ∧ gc = c' := by simpa using hv
      have t4 := T4.size
      have t5 := T5.size
      rcases Nat.eq_zero_or_pos N with h0 | h1
      · exact ⟨zb, 0, Or.inl h0, by omega, by omega⟩
      · obtain ⟨gg, cap', hv', hge, hlt, _⟩ := owned_cell O6.out h1
        have e1 : ga = some ⟨gg, 0, none⟩ := by simp at hv'; exact hv'.1
        rcases hM with c | ⟨c1, c2, c3⟩
        · omega
        · have e2 : gb = gg := by rw [e1] at c1; simpa using c1.symm
          exact ⟨gb, mm, Or.inr ⟨c1, c2, c3⟩, by omega, by omega⟩
    have HM : Hid (MRow w14 ga N 1 gb 3 mm) := hM
    clear q0 q1 q2 p0 p1 p2 hM hb14
    obtain ⟨q0, q1, q2⟩ := hq14
    go_wp2_with fail
    refine (markRun_any _ _ _ _ gb 3 mm _ _ HM.out (by omega) (by omega) (by omega)).mono ?_
    rintro e w15 ⟨rfl, hM15, hG15⟩
    have HM15 : Hid (Marked w15 ga N 1 gb 3 mm 1) := hM15
    have T15 := T14.grown hG15 T14.size (fun k e => by have := Option.some.inj e; omega)
    have hq15 := HQ14.out.grown hG15 (fun e => by have := Option.some.inj e; omega)
    have HQ15 : Hid (RBox w15 qb o ga N gc) := hq15
    clear q0 q1 q2 hM15 hG15 HM
    obtain ⟨q0, q1, q2⟩ := hq15
    go_wp2_with fail
    refine (heldRun_any _ _ _ _ gb 3 mm _ _ HM15.out (by omega) (by omega) (by omega)).mono ?_
    rintro e w16 ⟨rfl, hb16⟩
    have T16 := T15.trans (hb16.mono T15.size)
    have hB16 := HB.out.below T16
    obtain ⟨x0, x1, x2, x3, x4⟩ := hB16
    clear q0 q1 q2
    go_wp2_with fail
    refine (toProfile_any P _ _ ((HV.out.below B3).below T16) hs').mono ?_
    rintro e w17 ⟨v17, rfl, hc17, hb17⟩
    have HC17 : Hid (P.Copied w16.heap.size w17 v17) := hc17
    have e17 := hb16.trans (hb17.mono hb16.size)
    have T17 := T15.trans (e17.mono T15.size)
    clear x0 x1 x2 x3 x4 hc17 hb17 hb16
    go_wp2_with fail
    refine (HI.out _ _ HC17.out.lies).mono ?_
    rintro e w19 ⟨ha, hc, rfl, hg19, hb19⟩
    obtain ⟨rb, hrb⟩ : ∃ rb, w19.heap.size = rb := ⟨_, rfl⟩
    obtain ⟨W19, hW19⟩ : ∃ W19, w19.alloc (.cells #[.bool o, .int .i64 N, .slice ha N hc] 57) = W19 := ⟨_, rfl⟩
    have bx19 : Below w19.heap.size w19 W19 := by rw [← hW19]; exact (Below.refl _ _).alloc (Nat.le_refl _) _
    have e19 := (e17.trans (hb19.mono e17.size)).trans (bx19.mono (Nat.le_trans e17.size hb19.size))
    have T19 := T15.trans (e19.mono T15.size)
    have O19 : Hid (W19.ownsRow w17.heap.size 3 1 (.slice ha N hc) N (singles f N)) := ownsRow_below hg19 bx19
    have hr19 : RBox W19 rb o ha N hc := by subst hW19 hrb; exact ⟨by go_simp, by go_simp, by go_simp⟩
    have hw19 := HWB.out.below T19 lb
    have HQ19 : Hid (RBox W19 qb o ga N gc) := HQ15.out.below e19 HQ15.out.lt
    obtain ⟨q0, q1, q2⟩ := hr19
    obtain ⟨p0, p1, p2⟩ := hw19
    clear hg19 hb19 bx19 e17
    go_wp2_with fail
    refine (eqRun_same _ _ _ _ _ _ f _ (owned_row1 O19.out) (HW0.out.below T19) (by omega)).mono ?_
    rintro e w20 ⟨rfl, hb20⟩
    have hq20 := HQ19.out.below hb20 HQ19.out.lt
    have e20 := e19.trans (hb20.mono e19.size)
    have T20 := T15.trans (e20.mono T15.size)
    clear q0 q1 q2 p0 p1 p2 hW19 hrb hb20
    obtain ⟨q0, q1, q2⟩ := hq20
    go_wp2_with fail
    refine (heldRun_any _ _ _ _ gb 3 mm _ _ (HM15.out.below e20) (by omega) (by omega) (by omega)).mono ?_
    rintro e w21 ⟨rfl, hb21⟩
    have T21 := T20.trans (hb21.mono T20.size)
    go_wp2
    go_ret
    exact ⟨rfl, B3.trans (T21.mono B3.size)⟩

set_option maxRecDepth 100000 in
theorem lifted (os : Os) (started : os.Started) (H : Type) (enc : TypeId × Value → H) :
    ReturnsInHanded {} Try.checked os 12 .any (Rows.fnExactFastestSpec.pre6 enc Try.prog Try.f12 Rows.fnExactFastestRow.domain false) (Rows.fnExactFastestSpec.post enc Try.prog Try.f12 false true false false) := by
  refine returnsInHanded_of_change (C := Try.checked) own started (by kernel_rfl) Try.func12
    (ChangeSpec.witness6 (enc := enc) (C := Try.checked) false ⟨#[], #[.agg #[.slice none 0 0, .slice none 0 0, .int .i64 0, .int .i64 0, .int .i64 0], .int .i64 0, .int .i64 0, .int .i64 0], []⟩ 8 (by kernel_rfl) (by kernel_rfl) (by kernel_rfl) (by kernel_rfl)) ?_
  intro W base args ds gs before hval0 hW hcnd _
  have hval : ∀ (j : Nat) t v, Try.f12.params[j]? = some t → args[j]? = some v → Value.okWide Try.prog W .any base t v := hval0
  have hW' := hW
  obtain ⟨p, q, hA0, hV, rfl, hfz, hnd⟩ := hW
  have hA : DataW.TrodAll enc Try.prog W 0 (fun _ => true) true Try.f12.params.toList args.toList ds p := hA0
  rw [Try.params12] at hA hval
  obtain ⟨v0, vs0, d0, ds0, p0, q0, hargs, rfl, rfl, h0, r0⟩ := trodAll_cons hA
  obtain ⟨v1, vs1, d1, ds1, p1, q1, rfl, rfl, rfl, h1, r1⟩ := trodAll_cons r0
  obtain ⟨v2, vs2, d2, ds2, p2, q2, rfl, rfl, rfl, h2, r2⟩ := trodAll_cons r1
  obtain ⟨v3, vs3, d3, ds3, p3, q3, rfl, rfl, rfl, h3, r3⟩ := trodAll_cons r2
  obtain ⟨rfl, rfl, rfl⟩ := trodAll_nil r3
  obtain rfl : args = #[v0, v1, v2, v3] := by cases args; simp_all
  obtain ⟨rfl, rfl⟩ := trodVars_none hV
  have k0 := h0
  have lt0 : ∀ x ∈ p0, x.block < W.heap.size := by obtain ⟨m, hm⟩ := k0; exact DataW.trod_lt m _ _ _ hm
  obtain ⟨P, hl⟩ := open_profile (hval 0 27 v0 rfl rfl) h0
  obtain ⟨a1, rfl, rfl, rfl, w1⟩ := open_int Try.underlying3 (hval 1 3 v1 rfl rfl) h1
  obtain ⟨a2, rfl, rfl, rfl, w2⟩ := open_int Try.underlying3 (hval 2 3 v2 rfl rfl) h2
  obtain ⟨a3, rfl, rfl, rfl, w3⟩ := open_int Try.underlying3 (hval 3 3 v3 rfl rfl) h3
  clear hA0 hval0
  refine (walk P _ a1 w1 a2 w2 a3 w3 W hl).mono fun e W' ⟨he, bel⟩ => ?_
  subst he
  exact ⟨_, rfl, _, _, _, [], _, [], hW', trodAll_mk1 (shut_bool Try.underlying4 _), (trodAll_cons_mk (Below.trod laidOut (by kernel_rfl) (of_decide_eq_true (by kernel_rfl)) k0 bel lt0) (trodAll_cons_mk (shut_int Try.underlying3 w1) (trodAll_cons_mk (shut_int Try.underlying3 w2) (trodAll_cons_mk (shut_int Try.underlying3 w3) trodAll_mk0)))), rfl, bel.frame _, fun h => by cases h⟩

theorem over : Rows.fnExactFastestRow.holds Try.pinned (OpenSpec.ofChange Rows.fnExactFastestSpec) :=
  OpenClaim.holds_of_wide 12 Try.f12 rfl rfl rfl rfl rfl rfl rfl ⟨rfl, rfl, rfl, rfl, rfl⟩ rfl rfl rfl rfl rfl (by kernel_rfl) Try.func12 (by kernel_rfl)
    (of_decide_eq_true (by kernel_rfl)) (by unfold Func.isWrapper; first | (rw [if_pos (by decide +kernel)]; kernel_rfl) | (rw [if_neg (by decide +kernel)]; exact ⟨rfl, rfl⟩))
    (fun os started H enc _ => lifted os started H enc)
end Go.Proofs.Yteodefmpkljedab.fnExactFastest

namespace Go.Proofs.Yteodefmpkljedab
theorem fnExactFastest_holds : Rows.FnExactFastestSaid := fnExactFastest.over
#print axioms fnExactFastest_holds
end Go.Proofs.Yteodefmpkljedab
