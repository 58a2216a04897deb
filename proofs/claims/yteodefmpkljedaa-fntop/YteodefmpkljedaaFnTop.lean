/-
  The walk of FnTop, laid into the frame that the kit's program prints.
-/
import Derived.Test.YteodefmpkljedaaRows
import Derived.WalkKit
import Derived.ProofKit
import Derived.OpenShut
import Derived.ShutString
import Derived.ChangeOld
import Derived.Below
import Derived.Test.YteodefmpkljedaaLawSafe
import Derived.Test.YteodefmpkljedaaWatchAns
import Derived.Test.YteodefmpkljedaaImplWatch
import Derived.Test.YteodefmpkljedaaTopLaw
import Derived.Deep.RegionHeld3
namespace Go.Proofs.Yteodefmpkljedaa.fnTop
open Go.ChangeShapes Go.WideShapes Go.ChangeAt Go.RowKit
open Go.ChangeMaps (open_string shut_string)
set_option linter.unusedVariables false

theorem own : ownKnob Try.prog.godebug = none := by kernel_rfl
theorem laidOut : laidOutB Try.prog = true := by kernel_rfl

/-- WHAT THE WALK IS TOLD OF A SLICE OF INTEGERS THAT CAME IN: it is nil; or it leads to a row of 'cap' cells, the numbers 'zs' (the first 'len' are its elements, the rest its spare room), each fitting its kind. -/
def IsRow (k : IntKind) (w : World) (a : Option Addr) (len cap : Nat) (zs : List Int) : Prop :=
  (a = none ∧ len = 0 ∧ cap = 0 ∧ zs = []) ∨
  ∃ x, a = some x ∧ len ≤ cap ∧ cap ≤ maxLen ∧ zs.length = cap ∧ (∀ i, i < zs.length → w.cell? (x.add i) = some (.int k (zs.getD i 0))) ∧ ∀ n ∈ zs, (Lit.int k n).wf = true

theorem lawRow {w : World} {a : Option Addr} {len cap : Nat} {zs : List Int} (h : IsRow .u8 w a len cap zs) : RowOk w a len := by
  rcases h with ⟨rfl, rfl, rfl, rfl⟩ | ⟨x, rfl, h1, h2, h3, h4, h5⟩
  · exact ⟨by unfold maxLen; omega, Or.inl rfl⟩
  · refine ⟨by omega, ?_⟩
    by_cases hz : len = 0
    · exact Or.inl hz
    · obtain ⟨b, off, rfl, hc⟩ := ints_at h4 (by omega)
      have hb := World.block_lt_of_cell? _ _ (hc 0 (by omega))
      exact Or.inr ⟨b, off, zs, rfl, hb, by omega, hc, h5⟩
/-- A train that stands, not beyond the end, can be watched. -/
theorem watchable_zero {P : Prof} (h : P.Ok) {x : Int} (h0 : 0 ≤ x) (h1 : x ≤ P.fin) {n : Nat} (hn : n ≤ 39) : P.watchable n x 0 = true := by
  have hf := h.fin
  unfold Prof.watchable
  rw [Prof.good_yes ⟨h, h0, by omega⟩ (Int.le_refl 0) (by omega), Prof.safe_zero h1]
  simp
  omega

set_option maxHeartbeats 16000000 in
theorem walk (a0 : Option Addr) (len0 cap0 : Nat) (z0 : List Int) (w : World) (w0 : IsRow .u8 w a0 len0 cap0 z0) :
    Calls Try.prog 3 #[.slice a0 len0 cap0] w fun e w' => e = .returned (.bool true) ∧ Below w.heap.size w w' := by
  have hrow : Hid (RowOk w a0 len0) := lawRow w0
  clear w0
  have hmax : len0 ≤ 9223372036854775807 := by have := hrow.out.1; unfold maxLen at this; omega
  by_cases hbig : 1048576 < len0
  · go_enter Try.func3, Try.ntmps3
    go_wp2
    go_ret
    exact ⟨rfl, Below.refl _ _⟩
  · obtain ⟨P, x, n3, z3, hok, hx0, hx1, hn3, HPr⟩ := drawn_any cap0 hrow.out (by omega)
    have HOK : Hid P.Ok := hok
    have hwa := watchable_zero hok hx0 hx1 hn3
    obtain ⟨f0, f1⟩ := hok.fin
    have htot := (Prof.total_bounds hok.lens).2
    have hN : P.watN n3 x 0 = n3 := by simp [Prof.watN, hwa]
    have HBR : Hid (P.watBr n3 x 0 z3 = (P.wst x 0 z3 n3).braked) := by show _ = _; simp [Prof.watBr, hwa]
    have HAT : Hid (P.watAt n3 x 0 z3 = (P.wst x 0 z3 n3).x) := by show _ = _; simp [Prof.watAt, hwa]
    have HWT : Hid (∀ k, 0 ≤ (P.wst x 0 z3 (k + 1)).v ∧ (P.wst x 0 z3 (k + 1)).x = (P.wst x 0 z3 k).x + (P.wst x 0 z3 (k + 1)).v ∧ P.may (P.wst x 0 z3 k).x (P.wst x 0 z3 (k + 1)).v = true) := Prof.watched hok.rates z3 hx0 (Int.le_refl 0) (by omega) (Prof.safe_zero hx1)
    have HWI : Hid (∀ k, P.WInv x k (P.wst x 0 z3 k)) := Prof.wst_inv hok.rates z3 hx0 (Int.le_refl 0) (by omega) (Prof.safe_zero hx1)
    clear hok
    go_enter Try.func3, Try.ntmps3
    go_wp2_with fail
    refine (HPr.out _ (Below.refl _ _)).mono ?_
    rintro e w1 ⟨ap, cp, az, cz, a3, c3, rfl, hl1, hz1, hb1⟩
    have HL1 : Hid (P.Lies w1 (.agg #[.slice ap P.np cp, .slice az P.nz cz, .int .i64 P.train, .int .i64 P.fin, .int .i64 P.delay])) := hl1
    have HZ1 : Hid (Row1 w1 a3 n3 z3) := hz1
    clear hl1 hz1
    go_wp2_with fail
    obtain ⟨pb, hpb⟩ : ∃ pb, w1.heap.size = pb := ⟨_, rfl⟩
    rw [hpb]
    generalize hW1 : w1.alloc _ = W1
    have bq : Below w1.heap.size w1 W1 := by rw [← hW1]; exact (Below.refl _ _).alloc (Nat.le_refl _) _
    have HB1 : Hid (P.BoxAt W1 pb ap az cp cz) := by show Prof.BoxAt _ _ _ _ _ _ _; subst hW1 hpb; exact ⟨by go_simp, by go_simp, by go_simp, by go_simp, by go_simp⟩
    have HL : Hid (P.Lies W1 (.agg #[.slice ap P.np cp, .slice az P.nz cz, .int .i64 P.train, .int .i64 P.fin, .int .i64 P.delay])) := HL1.out.below bq
    have HZ : Hid (Row1 W1 a3 n3 z3) := HZ1.out.below bq
    have B1 := hb1.trans (bq.mono hb1.size)
    clear hW1 bq hb1 HL1 HZ1 hpb
    refine (HPr.out _ B1).mono ?_
    rintro e w2 ⟨ap2, cp2, az2, cz2, a4, c4, rfl, hl2, hz2, hb2⟩
    have HL2 : Hid (P.Lies w2 (.agg #[.slice ap2 P.np cp2, .slice az2 P.nz cz2, .int .i64 P.train, .int .i64 P.fin, .int .i64 P.delay])) := hl2
    have HZ2 : Hid (Row1 w2 a4 n3 z3) := hz2
    have hbx := HB1.out.below hb2
    have HB2 : Hid (P.BoxAt w2 pb ap az cp cz) := hbx
    clear hl2 hz2 hbx
    obtain ⟨W3, hW3⟩ : ∃ W3, w2.alloc (.cells #[.slice ap2 P.np cp2, .slice az2 P.nz cz2, .int .i64 P.train, .int .i64 P.fin, .int .i64 P.delay] 26) = W3 := ⟨_, rfl⟩
    have bq3 : Below w2.heap.size w2 W3 := by rw [← hW3]; exact (Below.refl _ _).alloc (Nat.le_refl _) _
    have T3 : Below W1.heap.size W1 W3 := hb2.trans (bq3.mono hb2.size)
    have HS3 : Hid (P.BoxAt W3 w2.heap.size ap2 az2 cp2 cz2) := by show Prof.BoxAt _ _ _ _ _ _ _; subst hW3; exact ⟨by go_simp, by go_simp, by go_simp, by go_simp, by go_simp⟩
    have HL3 : Hid (P.Lies W3 (.agg #[.slice ap2 P.np cp2, .slice az2 P.nz cz2, .int .i64 P.train, .int .i64 P.fin, .int .i64 P.delay])) := HL2.out.below bq3
    have HZ3 : Hid (Row1 W3 a4 n3 z3) := HZ2.out.below bq3
    obtain ⟨x0, x1, x2, x3, x4⟩ := HB2.out.below bq3
    clear HL2 HZ2 bq3 hb2
    go_wp2_with fail
    refine (implWatch_any P _ x 0 a3 n3 c3 z3 _ (HL.out.below T3) (HZ.out.below T3) (by omega)).mono ?_
    rintro e w4 ⟨a5, c5, rfl, ho4, hb4⟩
    rw [hwa, HBR.out, HAT.out]
    rw [hN] at ho4 ⊢
    have HR4 : Hid (Row1 w4 a5 n3 (P.wSpeed x 0 z3)) := owned_row1 ho4
    obtain ⟨br, hbr⟩ : ∃ br, (P.wst x 0 z3 n3).braked = br := ⟨_, rfl⟩
    obtain ⟨at_, hat⟩ : ∃ at_, (P.wst x 0 z3 n3).x = at_ := ⟨_, rfl⟩
    have HATT : Hid ((P.wst x 0 z3 n3).x = at_) := hat
    rw [hbr, hat]
    have T4 := T3.trans (hb4.mono T3.size)
    have HS4 : Hid (P.BoxAt w4 w2.heap.size ap2 az2 cp2 cz2) := HS3.out.below hb4
    have HB4 : Hid (P.BoxAt w4 pb ap az cp cz) := HB1.out.below T4
    obtain ⟨W5, hW5⟩ : ∃ W5, w4.alloc (.cells #[.bool true, .slice a5 n3 c5, .int .i64 br, .int .i64 at_] 31) = W5 := ⟨_, rfl⟩
    have bq5 : Below w4.heap.size w4 W5 := by rw [← hW5]; exact (Below.refl _ _).alloc (Nat.le_refl _) _
    have T5 := T4.trans (bq5.mono T4.size)
    have T35 : Below W3.heap.size W3 W5 := hb4.trans (bq5.mono hb4.size)
    have HG5 : Hid (W5.cell? ⟨w4.heap.size, 0, none⟩ = some (.bool true) ∧ W5.cell? ⟨w4.heap.size, 1, none⟩ = some (.slice a5 n3 c5) ∧ W5.cell? ⟨w4.heap.size, 2, none⟩ = some (.int .i64 br) ∧ W5.cell? ⟨w4.heap.size, 3, none⟩ = some (.int .i64 at_)) := by subst hW5; exact ⟨by go_simp, by go_simp, by go_simp, by go_simp⟩
    have HR5 : Hid (Row1 W5 a5 n3 (P.wSpeed x 0 z3)) := HR4.out.below bq5
    clear x0 x1 x2 x3 x4 ho4 HR4 hat hW3
    obtain ⟨x0, x1, x2, x3, x4⟩ := HS4.out.below bq5
    go_wp2_with fail
    refine (specWatch_any P _ x 0 a4 n3 c4 z3 _ (HL3.out.below T35) (HZ3.out.below T35) (by omega)).mono ?_
    rintro e w6 ⟨a6, c6, rfl, ho6, hb6⟩
    rw [hwa, HBR.out, HAT.out, HATT.out]
    rw [hN] at ho6 ⊢
    rw [hbr]
    clear hbr
    have HR6 : Hid (Row1 w6 a6 n3 (P.wSpeed x 0 z3)) := owned_row1 ho6
    obtain ⟨W7, hW7⟩ : ∃ W7, w6.alloc (.cells #[.bool true, .slice a6 n3 c6, .int .i64 br, .int .i64 at_] 31) = W7 := ⟨_, rfl⟩
    have bq7 : Below w6.heap.size w6 W7 := by rw [← hW7]; exact (Below.refl _ _).alloc (Nat.le_refl _) _
    have T57 : Below W5.heap.size W5 W7 := hb6.trans (bq7.mono hb6.size)
    have T7 := T5.trans (T57.mono T5.size)
    have T37 : Below W3.heap.size W3 W7 := T35.trans (T57.mono T35.size)
    have hg0 : w4.heap.size < W5.heap.size := World.block_lt_of_cell? _ _ HG5.out.1
    have HG7 : Hid (W7.cell? ⟨w4.heap.size, 0, none⟩ = some (.bool true) ∧ W7.cell? ⟨w4.heap.size, 1, none⟩ = some (.slice a5 n3 c5) ∧ W7.cell? ⟨w4.heap.size, 2, none⟩ = some (.int .i64 br) ∧ W7.cell? ⟨w4.heap.size, 3, none⟩ = some (.int .i64 at_)) := ⟨(T57.cell (p := ⟨w4.heap.size, 0, none⟩) hg0).trans HG5.out.1, (T57.cell (p := ⟨w4.heap.size, 1, none⟩) hg0).trans HG5.out.2.1, (T57.cell (p := ⟨w4.heap.size, 2, none⟩) hg0).trans HG5.out.2.2.1, (T57.cell (p := ⟨w4.heap.size, 3, none⟩) hg0).trans HG5.out.2.2.2⟩
    have HX7 : Hid (W7.cell? ⟨w6.heap.size, 0, none⟩ = some (.bool true) ∧ W7.cell? ⟨w6.heap.size, 1, none⟩ = some (.slice a6 n3 c6) ∧ W7.cell? ⟨w6.heap.size, 2, none⟩ = some (.int .i64 br) ∧ W7.cell? ⟨w6.heap.size, 3, none⟩ = some (.int .i64 at_)) := by subst hW7; exact ⟨by go_simp, by go_simp, by go_simp, by go_simp⟩
    have HB7 : Hid (P.BoxAt W7 pb ap az cp cz) := HB1.out.below T7
    have HS7 : Hid (P.BoxAt W7 w2.heap.size ap2 az2 cp2 cz2) := HS3.out.below T37
    clear x0 x1 x2 x3 x4 ho6 hW5
    obtain ⟨x0, x1, x2, x3, x4⟩ := HB7.out
    obtain ⟨y0, y1, y2, y3, y4⟩ := HS7.out
    obtain ⟨g0, g1, g2, g3⟩ := HG7.out
    obtain ⟨v0, v1, v2, v3⟩ := HX7.out
    go_wp2_with fail
    refine (wInts_same _ _ _ _ _ (P.wSpeed x 0 z3) _ (HR5.out.below T57) (HR6.out.below bq7) (by omega)).mono ?_
    rintro e w8 ⟨rfl, hb8⟩
    clear x0 x1 x2 x3 x4 y0 y1 y2 y3 y4 g0 g1 g2 g3 v0 v1 v2 v3 hW7
    obtain ⟨x0, x1, x2, x3, x4⟩ := HB7.out.below hb8
    obtain ⟨y0, y1, y2, y3, y4⟩ := HS7.out.below hb8
    go_wp2_with fail
    refine (wProfile_same P _ _ _ ((HL.out.below T7).below hb8) ((HL3.out.below T37).below hb8) HOK.out).mono ?_
    rintro e w9 ⟨rfl, hb9⟩
    have t9 := hb8.trans (hb9.mono hb8.size)
    clear x0 x1 x2 x3 x4 y0 y1 y2 y3 y4 hb8 hb9
    go_wp2_with fail
    refine (wInts_same _ _ _ _ _ z3 _ ((HZ.out.below T7).below t9) ((HZ3.out.below T37).below t9) (by omega)).mono ?_
    rintro e w10 ⟨rfl, hb10⟩
    have t10 := t9.trans (hb10.mono t9.size)
    clear hb10 t9
    have hgl : w4.heap.size < W7.heap.size := World.block_lt_of_cell? _ _ HG7.out.1
    have g1 : w10.cell? ⟨w4.heap.size, 1, none⟩ = some (.slice a5 n3 c5) := (t10.cell (p := ⟨w4.heap.size, 1, none⟩) hgl).trans HG7.out.2.1
    have HR7 : Hid (Row1 W7 a5 n3 (P.wSpeed x 0 z3)) := HR5.out.below T57
    clear HR5 HR6 HS3 HS4 HS7 HG5 HX7 HZ3 HL3 HZ T57 T35 T37 T5 T4 T3 bq5 bq7 hb4 hb6
    go_wp2_with fail
    go_loopw [11, 80] (fun sa i wr => ∃ k : Nat, k ≤ n3 ∧ i = .int .i64 k ∧ sa = .int .i64 (P.wst x 0 z3 k).x ∧ Hid (Below W7.heap.size W7 wr)) (fun _ i _ => n3 - (intOf i).toNat)
    case atStart => exact ⟨0, Nat.zero_le _, rfl, rfl, t10⟩
    case round =>
      clear g1 t10
      obtain ⟨k, hk, rfl, rfl, HQ⟩ := hrel
      have T10 := T7.trans (HQ.out.mono T7.size)
      by_cases hlt : k < n3
      · have hkI : (k : Int) < (n3 : Int) := by omega
        rcases HR7.out with h0 | ⟨bb, off, rfl, hbb, hcc⟩
        · omega
        have c0 : wr.cell? ⟨bb, off + k, none⟩ = some (.int .i64 (P.wSpeed x 0 z3 k)) := (HQ.out.cell (p := ⟨bb, off + k, none⟩) hbb).trans (hcc k hlt)
        obtain ⟨x0, x1, x2, x3, x4⟩ := HB7.out.below HQ.out
        obtain ⟨q0, q1, q2⟩ := HWT.out k
        have hin := HWI.out k
        have i6 := hin.2.2.2.2.2.1
        have i7 := hin.2.2.2.2.2.2.1
        have q3 := Prof.may_end q2
        have HMY : Hid (P.may (P.wst x 0 z3 k).x (P.wst x 0 z3 (k + 1)).v = true) := q2
        have HX1 : Hid ((P.wst x 0 z3 (k + 1)).x = (P.wst x 0 z3 k).x + (P.wst x 0 z3 (k + 1)).v) := q1
        have hsp : P.wSpeed x 0 z3 k = (P.wst x 0 z3 (k + 1)).v := rfl
        rw [hsp] at c0
        clear hcc hin q1 q2 hsp
        generalize (P.wst x 0 z3 (k + 1)).v = q at *
        generalize (P.wst x 0 z3 k).x = xk at *
        have n0 : decide (q < 0) = false := by simp; omega
        have n1 : decide (P.fin < xk + q) = false := by simp; omega
        go_wp2_with fail
        refine (wLimit_any P _ xk (xk + q) _ ((HL.out.below T7).below HQ.out) HOK.out).mono ?_
        rintro e w11 ⟨rfl, hb11⟩
        have t11 := HQ.out.trans (hb11.mono HQ.out.size)
        clear x0 x1 x2 x3 x4 hb11 c0
        by_cases hq : 0 < q
        · have hov : q ≤ P.over xk (xk + q) := by
            have := HMY.out
            unfold Prof.may at this
            rw [if_neg (by omega)] at this
            simp at this
            exact this.2
          have n2 : decide (P.over xk (xk + q) < q) = false := by simp; omega
          clear hov
          generalize P.over xk (xk + q) = ov at *
          go_wp2
          go_roundw
          case rel => exact ⟨k + 1, by omega, by go_num, by rw [HX1.out], t11⟩
          case measure => simp [intOf]; omega
        · have hq' : decide (0 < q) = false := by simpa using hq
          generalize P.over xk (xk + q) = ov at *
          by_cases hc : ov < q
          · go_wp2
            go_roundw
            case rel => exact ⟨k + 1, by omega, by go_num, by rw [HX1.out], t11⟩
            case measure => simp [intOf]; omega
          · have hc' : decide (ov < q) = false := by simpa using hc
            go_wp2
            go_roundw
            case rel => exact ⟨k + 1, by omega, by go_num, by rw [HX1.out], t11⟩
            case measure => simp [intOf]; omega
      · have ek : k = n3 := by omega
        subst ek
        have g3 : wr.cell? ⟨w4.heap.size, 3, none⟩ = some (.int .i64 at_) := (HQ.out.cell (p := ⟨w4.heap.size, 3, none⟩) hgl).trans HG7.out.2.2.2
        rw [HATT.out]
        go_wp2
        go_ret
        exact ⟨by simp, B1.trans (T10.mono B1.size)⟩

set_option maxRecDepth 100000 in
theorem lifted (os : Os) (started : os.Started) (H : Type) (enc : TypeId × Value → H) :
    ReturnsInHanded {} Try.checked os 3 .any (Rows.fnTopSpec.pre6 enc Try.prog Try.f3 Rows.fnTopRow.domain false) (Rows.fnTopSpec.post enc Try.prog Try.f3 false true false false) := by
  refine returnsInHanded_of_change (C := Try.checked) own started (by kernel_rfl) Try.func3
    (ChangeSpec.witness6 (enc := enc) (C := Try.checked) false ⟨#[], #[.slice none 0 0], []⟩ 8 (by kernel_rfl) (by kernel_rfl) (by kernel_rfl) (by kernel_rfl)) ?_
  intro W base args ds gs before hval0 hW hcnd _
  have hval : ∀ (j : Nat) t v, Try.f3.params[j]? = some t → args[j]? = some v → Value.okWide Try.prog W .any base t v := hval0
  have hW' := hW
  obtain ⟨p, q, hA0, hV, rfl, hfz, hnd⟩ := hW
  have hA : DataW.TrodAll enc Try.prog W 0 (fun _ => true) true Try.f3.params.toList args.toList ds p := hA0
  rw [Try.params3] at hA hval
  obtain ⟨v0, vs0, d0, ds0, p0, q0, hargs, rfl, rfl, h0, r0⟩ := trodAll_cons hA
  obtain ⟨rfl, rfl, rfl⟩ := trodAll_nil r0
  obtain rfl : args = #[v0] := by cases args; simp_all
  obtain ⟨rfl, rfl⟩ := trodVars_none hV
  obtain ⟨a0, len0, cap0, rfl⟩ := okWide_slice Try.underlying22 (hval 0 22 v0 rfl rfl)
  have k0 := h0
  have lt0 : ∀ x ∈ p0, x.block < W.heap.size := by obtain ⟨m, hm⟩ := k0; exact DataW.trod_lt m _ _ _ hm
  obtain ⟨z0, w0⟩ : ∃ zs, IsRow .u8 W a0 len0 cap0 zs := by
    obtain ⟨fuel, hf⟩ := h0
    rcases open_ints Try.underlying22 Try.underlying5 (by kernel_rfl) hf with ⟨hcs, _⟩ | ⟨x, l, c, zs, hcs, _, hl, hm, hz, _, hcell, hwz⟩
    · simp [Value.cells] at hcs
      obtain ⟨rfl, rfl, rfl⟩ := hcs
      exact ⟨[], .inl ⟨rfl, rfl, rfl, rfl⟩⟩
    · simp [Value.cells] at hcs
      obtain ⟨rfl, rfl, rfl⟩ := hcs
      exact ⟨zs, .inr ⟨_, rfl, hl, hm, by simpa using hz, hcell, hwz⟩⟩
  clear hA0 hval0
  refine (walk a0 len0 cap0 z0 W w0).mono fun e W' ⟨he, bel⟩ => ?_
  subst he
  exact ⟨_, rfl, _, _, _, [], _, [], hW', trodAll_mk1 (shut_bool Try.underlying4 _), (trodAll_cons_mk (Below.trod laidOut (by kernel_rfl) (of_decide_eq_true (by kernel_rfl)) k0 bel lt0) trodAll_mk0), rfl, bel.frame _, fun h => by cases h⟩

theorem over : Rows.fnTopRow.holds Try.pinned (OpenSpec.ofChange Rows.fnTopSpec) :=
  OpenClaim.holds_of_wide 3 Try.f3 rfl rfl rfl rfl rfl rfl rfl ⟨rfl, rfl, rfl, rfl, rfl⟩ rfl rfl rfl rfl rfl (by kernel_rfl) Try.func3 (by kernel_rfl)
    (of_decide_eq_true (by kernel_rfl)) (by unfold Func.isWrapper; first | (rw [if_pos (by decide +kernel)]; kernel_rfl) | (rw [if_neg (by decide +kernel)]; exact ⟨rfl, rfl⟩))
    (fun os started H enc _ => lifted os started H enc)

theorem proved : Rows.FnTopSaid := over
end Go.Proofs.Yteodefmpkljedaa.fnTop

namespace Go.Proofs.Yteodefmpkljedaa
theorem fnTop_holds : Rows.FnTopSaid := fnTop.proved
#print axioms fnTop_holds
end Go.Proofs.Yteodefmpkljedaa
