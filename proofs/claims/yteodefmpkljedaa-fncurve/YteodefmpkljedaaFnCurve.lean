/-
  The walk of FnCurve, laid into the frame that the kit's program prints.
-/
import Derived.Test.YteodefmpkljedaaRows
import Derived.WalkKit
import Derived.ProofKit
import Derived.OpenShut
import Derived.ShutString
import Derived.ChangeOld
import Derived.Below
import Derived.Test.YteodefmpkljedaaLawSafe
import Derived.Test.YteodefmpkljedaaBytes2
import Derived.Test.YteodefmpkljedaaSpecSafe2
import Derived.Test.YteodefmpkljedaaImplMostNow
import Derived.Test.YteodefmpkljedaaImplCurve
import Derived.Lib.QuietBelow
import Derived.BigQuiet
namespace Go.Proofs.Yteodefmpkljedaa.fnCurve
open Go.ChangeShapes Go.WideShapes Go.ChangeAt Go.RowKit
open Go.ChangeMaps (open_string shut_string)
set_option linter.unusedVariables false

theorem own : ownKnob Try.prog.godebug = none := by kernel_rfl
theorem laidOut : laidOutB Try.prog = true := by kernel_rfl

/-- WHAT THE WALK IS TOLD OF A SLICE OF INTEGERS THAT CAME IN: it is nil; or it leads to a row of 'cap' cells, the numbers 'zs' (the first 'len' are its elements, the rest its spare room), each fitting its kind. -/
def IsRow (k : IntKind) (w : World) (a : Option Addr) (len cap : Nat) (zs : List Int) : Prop :=
  (a = none ∧ len = 0 ∧ cap = 0 ∧ zs = []) ∨
  ∃ x, a = some x ∧ len ≤ cap ∧ cap ≤ maxLen ∧ zs.length = cap ∧ (∀ i, i < zs.length → w.cell? (x.add i) = some (.int k (zs.getD i 0))) ∧ ∀ n ∈ zs, (Lit.int k n).wf = true

theorem lawRow {w : World} {a : Option Addr} {len cap : Nat} {zs : List Int} (h : IsRow .u8 w a len cap zs) : RowOk w a len := by
  rcases h with ⟨rfl, rfl, rfl, rfl⟩ | ⟨x, rfl, h1, h2, h3, h4, h5⟩
  · exact ⟨by unfold maxLen; omega, Or.inl rfl⟩
  · refine ⟨by omega, ?_⟩
    by_cases hz : len = 0
    · exact Or.inl hz
    · obtain ⟨b, off, rfl, hc⟩ := ints_at h4 (by omega)
      have hb := World.block_lt_of_cell? _ _ (hc 0 (by omega))
      exact Or.inr ⟨b, off, zs, rfl, hb, by omega, hc, h5⟩
theorem curve_byte {f y : Int} (hf : 0 ≤ f) (hy : 0 ≤ y) : ∃ r s, y.tmod 20 = r ∧ 0 ≤ r ∧ r < 20 ∧ f.tdiv (1 + r) = s ∧ 0 ≤ s ∧ s ≤ f ∧ f / (1 + s) ≤ 20 ∧ 0 ≤ f / (1 + s) := by
  have e : y.tmod 20 = y % 20 := Int.tmod_eq_emod_of_nonneg hy
  have h0 : 0 ≤ y % 20 := Int.emod_nonneg _ (by omega)
  have h1 : y % 20 < 20 := Int.emod_lt_of_pos _ (by omega)
  obtain ⟨c1, c2, c3, c4⟩ := curve_few (d := 1 + y % 20) hf (by omega) (by omega)
  exact ⟨y % 20, f / (1 + y % 20), e, h0, h1, Int.tdiv_eq_ediv_of_nonneg hf, by omega, by omega, c3, c4⟩

set_option maxHeartbeats 16000000 in
theorem walk (a0 : Option Addr) (len0 cap0 : Nat) (z0 : List Int) (w : World) (w0 : IsRow .u8 w a0 len0 cap0 z0) :
    Calls Try.prog 10 #[.slice a0 len0 cap0] w fun e w' => e = .returned (.bool true) ∧ Below w.heap.size w w' := by
  have hrow : Hid (RowOk w a0 len0) := lawRow w0
  clear w0
  have hmax : len0 ≤ 9223372036854775807 := by have := hrow.out.1; unfold maxLen at this; omega
  by_cases hbig : 1048576 < len0
  · go_enter Try.func10, Try.ntmps10
    go_wp2
    go_ret
    exact ⟨rfl, Below.refl _ _⟩
  · obtain ⟨P, x, n3, z3, hok, hx0, hx1, hn3, HPr⟩ := drawn_any cap0 hrow.out (by omega)
    have HOK : Hid P.Ok := hok
    obtain ⟨f0, f1⟩ := hok.fin
    have htot := (Prof.total_bounds hok.lens).2
    obtain ⟨y, yy0, yy1, hwb⟩ := wByte_one hrow.out 0 (by omega) (by omega) cap0
    have HWB : Hid (∀ w1, Below w.heap.size w w1 → Calls Try.prog 20 #[.slice a0 len0 cap0, .int .i64 0] w1 fun e w' => e = .returned (.int .i64 y) ∧ w' = w1) := hwb
    obtain ⟨r, s, hr, r0, r1, hs, s0, s1, c0, c1⟩ := curve_byte f0 yy0
    have HN : Hid (P.curveN (1 + s) = (P.fin / (1 + s)).toNat + 1) := Prof.curveN_yes hok (by omega) (by omega)
    have HMOST : Hid (∀ z, 0 ≤ z → z ≤ P.fin → P.mostAns z = P.most z) := fun z h0 h1 => (hok.goodAns h0 h1).1
    clear hok hwb hx0 hx1
    go_enter Try.func10, Try.ntmps10
    go_wp2_with fail
    refine (HPr.out _ (Below.refl _ _)).mono ?_
    rintro e w1 ⟨ap, cp, az, cz, a3, c3, rfl, hl1, hz1, hb1⟩
    have HL1 : Hid (P.Lies w1 (.agg #[.slice ap P.np cp, .slice az P.nz cz, .int .i64 P.train, .int .i64 P.fin, .int .i64 P.delay])) := hl1
    clear hl1 hz1
    go_wp2_with fail
    obtain ⟨pb, hpb⟩ : ∃ pb, w1.heap.size = pb := ⟨_, rfl⟩
    rw [hpb]
    generalize hW1 : w1.alloc _ = W1
    have bq : Below w1.heap.size w1 W1 := by rw [← hW1]; exact (Below.refl _ _).alloc (Nat.le_refl _) _
    have HB1 : Hid (P.BoxAt W1 pb ap az cp cz) := by show Prof.BoxAt _ _ _ _ _ _ _; subst hW1 hpb; exact ⟨by go_simp, by go_simp, by go_simp, by go_simp, by go_simp⟩
    have HL : Hid (P.Lies W1 (.agg #[.slice ap P.np cp, .slice az P.nz cz, .int .i64 P.train, .int .i64 P.fin, .int .i64 P.delay])) := HL1.out.below bq
    have B1 := hb1.trans (bq.mono hb1.size)
    clear hW1 bq hb1 HL1 hpb HPr
    have cW : ∀ d os, Calls Try.prog 20 #[.slice a0 len0 cap0, .int .i64 0] (Sort.grow (redrawn W1 d) os) fun e w'' => e = .returned (.int .i64 y) ∧ ∃ p : Regrown, w'' = Sort.grow (redrawn W1 p.d) p.os := fun d os => Calls.regrown_same (HWB.out _ (B1.trans ((below_regrown W1 d os).mono B1.size)))
    have hne : ((1 + r) == 0) = false := by simp; omega
    have hne' : (1 + r) ≠ 0 := by omega
    have y3 := cell_regrown HB1.out.2.2.2.1
    refine wp_region_quiet_below (by kernel_rfl) (by kernel_rfl) ?_
    repeat (go_big_quiet_step (exact cW _ _))
    refine wpQuiet_nil ?_
    intro _ hw'
    obtain ⟨⟨dq, osq⟩, hw''⟩ := hw'
    subst hw''
    have hq2 := below_regrown W1 dq osq
    clear y3 cW hne hne' hr hs
    generalize Sort.grow (redrawn W1 dq) osq = W2 at *
    have hbx2 := HB1.out.below hq2
    obtain ⟨x0, x1, x2, x3, x4⟩ := hbx2
    go_wp2_with fail
    refine (implCurve_any P _ (1 + s) _ (HL.out.below hq2) (by omega)).mono ?_
    rintro e w3 ⟨v', rfl, ho, hb3⟩
    obtain ⟨st, hst⟩ : ∃ st, 1 + s = st := ⟨_, rfl⟩
    rw [hst] at ho HN c0 c1 ⊢
    have st0 : 1 ≤ st := by omega
    have st1 : st ≤ P.fin + 1 := by omega
    obtain ⟨n, hn⟩ : ∃ n : Nat, P.fin / st = (n : Int) := ⟨(P.fin / st).toNat, by omega⟩
    have hNn : P.curveN st = n + 1 := by rw [HN.out, hn]; simp
    rw [hNn] at ho
    have n20 : n ≤ 20 := by omega
    have hq : P.fin.tdiv st = (n : Int) := by rw [Int.tdiv_eq_ediv_of_nonneg f0, hn]
    have hne : (st == 0) = false := by simp; omega
    have hne' : st ≠ 0 := by omega
    have HMUL : Hid (∀ k : Nat, k ≤ n → 0 ≤ (k : Int) * st ∧ (k : Int) * st ≤ P.fin) := fun k hk => ⟨Int.mul_nonneg (by omega) (by omega), Int.le_trans (Int.mul_le_mul_of_nonneg_right (by omega) (by omega)) (Int.ediv_mul_le P.fin (show st ≠ 0 by omega))⟩
    obtain ⟨a5, c5, rfl, _, _, _⟩ := owned_shape ho
    have HR3 : Hid (Row2 w3 a5 (n + 1) (Prof.curveAt st) (P.curveSpeed st)) := owned_row2 ho
    have t3 := hq2.trans (hb3.mono hq2.size)
    have HB3 : Hid (P.BoxAt w3 pb ap az cp cz) := HB1.out.below t3
    clear x0 x1 x2 x3 x4 ho hst HN hq2 hb3 hn c0 c1 s0 s1
    obtain ⟨x0, x1, x2, x3, x4⟩ := HB3.out
    go_wp2_with fail
    go_loopw [40] (fun i wr => ∃ k : Nat, k ≤ n + 1 ∧ i = .int .i64 k ∧ Hid (Below w3.heap.size w3 wr)) (fun i _ => n + 1 - (intOf i).toNat)
    case atStart => exact ⟨0, Nat.zero_le _, rfl, Below.refl _ _⟩
    case round =>
      clear x0 x1 x2 x3 x4 hq hne hne'
      obtain ⟨k, hk, rfl, HQ⟩ := hrel
      have t4 := t3.trans (HQ.out.mono t3.size)
      have hbx4 := HB1.out.below t4
      by_cases hlt : k < n + 1
      · have hkI : (k : Int) < (n : Int) + 1 := by omega
        rcases HR3.out with h0 | ⟨bb, off, rfl, hbb, hcc⟩
        · omega
        obtain ⟨m0, m1⟩ := HMUL.out k (by omega)
        have q0 : wr.cell? ⟨bb, off + k * 2, none⟩ = some (.int .i64 ((k : Int) * st)) := (HQ.out.cell (p := ⟨bb, off + k * 2, none⟩) hbb).trans (hcc k hlt).1
        have q1 : wr.cell? ⟨bb, off + k * 2 + 1, none⟩ = some (.int .i64 (P.most ((k : Int) * st))) := (HQ.out.cell (p := ⟨bb, off + k * 2 + 1, none⟩) hbb).trans (hcc k hlt).2
        obtain ⟨y, hy⟩ : ∃ y, (k : Int) * st = y := ⟨_, rfl⟩
        rw [hy] at m0 m1 q0 q1
        have HMY : Hid (P.mostAns y = P.most y) := HMOST.out y m0 m1
        clear hcc
        generalize P.most y = m at *
        obtain ⟨W4, hW4⟩ : ∃ W4, wr.alloc (.cells #[.int .i64 y, .int .i64 m] 57) = W4 := ⟨_, rfl⟩
        have bq4 : Below wr.heap.size wr W4 := by rw [← hW4]; exact (Below.refl _ _).alloc (Nat.le_refl _) _
        have t5 := t4.trans (bq4.mono t4.size)
        have z0 : W4.cell? ⟨wr.heap.size, 0, none⟩ = some (.int .i64 y) := by subst hW4; go_simp
        have z1 : W4.cell? ⟨wr.heap.size, 1, none⟩ = some (.int .i64 m) := by subst hW4; go_simp
        have hbx5 := hbx4.below bq4
        obtain ⟨x0, x1, x2, x3, x4⟩ := hbx5
        go_wp2_with fail
        have cM1 : ∀ d os, Calls Try.prog 27 #[.agg #[.slice ap P.np cp, .slice az P.nz cz, .int .i64 P.train, .int .i64 P.fin, .int .i64 P.delay], .int .i64 y] (Sort.grow (redrawn W4 d) os) fun e w'' => e = .returned (.int .i64 m) ∧ ∃ p : Regrown, w'' = Sort.grow (redrawn W4 p.d) p.os := fun d os => by
          have := Calls.regrown_of (implMostNow_any P _ y _ ((HL.out.below t5).below (below_regrown W4 d os)))
          rw [HMY.out] at this
          exact this
        have cM2 : ∀ d os, Calls Try.prog 30 #[.agg #[.slice ap P.np cp, .slice az P.nz cz, .int .i64 P.train, .int .i64 P.fin, .int .i64 P.delay], .int .i64 y] (Sort.grow (redrawn W4 d) os) fun e w'' => e = .returned (.int .i64 m) ∧ ∃ p : Regrown, w'' = Sort.grow (redrawn W4 p.d) p.os := fun d os => by
          have := Calls.regrown_of (specMostNow_any P _ y _ ((HL.out.below t5).below (below_regrown W4 d os)))
          rw [HMY.out] at this
          exact this
        replace z0 := cell_regrown z0
        replace z1 := cell_regrown z1
        replace x0 := cell_regrown x0
        replace x1 := cell_regrown x1
        replace x2 := cell_regrown x2
        replace x3 := cell_regrown x3
        replace x4 := cell_regrown x4
        clear hW4 q0 q1 hbx4
        refine wp_region_quiet_below (by kernel_rfl) (by kernel_rfl) ?_
        repeat (go_big_quiet_step (first | exact cM1 _ _ | exact cM2 _ _))
        refine wpQuiet_nil ?_
        intro _ hw'
        obtain ⟨⟨dq, osq⟩, hw''⟩ := hw'
        subst hw''
        have hq5 := below_regrown W4 dq osq
        clear x0 x1 x2 x3 x4 z0 z1 cM1 cM2
        generalize Sort.grow (redrawn W4 dq) osq = W5 at *
        have t6 : Below w3.heap.size w3 W5 := (HQ.out.trans (bq4.mono HQ.out.size)).trans (hq5.mono (by have := HQ.out.size; have := bq4.size; omega))
        go_wp2
        go_roundw
        case rel => exact ⟨k + 1, by omega, by go_num, t6⟩
        case measure => simp [intOf]; omega
      · have ek : k = n + 1 := by omega
        subst ek
        obtain ⟨x0, x1, x2, x3, x4⟩ := hbx4
        have HE : Hid (P.mostAns P.fin = 0) := by show _ = _; rw [HMOST.out P.fin f0 (Int.le_refl _)]; exact P.most_end
        go_wp2_with fail
        refine (implMostNow_any P _ _ _ (HL.out.below t4)).mono ?_
        rintro e w6 ⟨rfl, hb6⟩
        rw [HE.out]
        have t6 := t4.trans (hb6.mono t4.size)
        go_wp2
        go_ret
        exact ⟨by simp, B1.trans (t6.mono B1.size)⟩

set_option maxRecDepth 100000 in
theorem lifted (os : Os) (started : os.Started) (H : Type) (enc : TypeId × Value → H) :
    ReturnsInHanded {} Try.checked os 10 .any (Rows.fnCurveSpec.pre6 enc Try.prog Try.f10 Rows.fnCurveRow.domain false) (Rows.fnCurveSpec.post enc Try.prog Try.f10 false true false false) := by
  refine returnsInHanded_of_change (C := Try.checked) own started (by kernel_rfl) Try.func10
    (ChangeSpec.witness6 (enc := enc) (C := Try.checked) false ⟨#[], #[.slice none 0 0], []⟩ 8 (by kernel_rfl) (by kernel_rfl) (by kernel_rfl) (by kernel_rfl)) ?_
  intro W base args ds gs before hval0 hW hcnd _
  have hval : ∀ (j : Nat) t v, Try.f10.params[j]? = some t → args[j]? = some v → Value.okWide Try.prog W .any base t v := hval0
  have hW' := hW
  obtain ⟨p, q, hA0, hV, rfl, hfz, hnd⟩ := hW
  have hA : DataW.TrodAll enc Try.prog W 0 (fun _ => true) true Try.f10.params.toList args.toList ds p := hA0
  rw [Try.params10] at hA hval
  obtain ⟨v0, vs0, d0, ds0, p0, q0, hargs, rfl, rfl, h0, r0⟩ := trodAll_cons hA
  obtain ⟨rfl, rfl, rfl⟩ := trodAll_nil r0
  obtain rfl : args = #[v0] := by cases args; simp_all
  obtain ⟨rfl, rfl⟩ := trodVars_none hV
  obtain ⟨a0, len0, cap0, rfl⟩ := okWide_slice Try.underlying22 (hval 0 22 v0 rfl rfl)
  have k0 := h0
  have lt0 : ∀ x ∈ p0, x.block < W.heap.size := by obtain ⟨m, hm⟩ := k0; exact DataW.trod_lt m _ _ _ hm
  obtain ⟨z0, w0⟩ : ∃ zs, IsRow .u8 W a0 len0 cap0 zs := by
    obtain ⟨fuel, hf⟩ := h0
    rcases open_ints Try.underlying22 Try.underlying5 (by kernel_rfl) hf with ⟨hcs, _⟩ | ⟨x, l, c, zs, hcs, _, hl, hm, hz, _, hcell, hwz⟩
    · simp [Value.cells] at hcs
      obtain ⟨rfl, rfl, rfl⟩ := hcs
      exact ⟨[], .inl ⟨rfl, rfl, rfl, rfl⟩⟩
    · simp [Value.cells] at hcs
      obtain ⟨rfl, rfl, rfl⟩ := hcs
      exact ⟨zs, .inr ⟨_, rfl, hl, hm, by simpa using hz, hcell, hwz⟩⟩
  clear hA0 hval0
  refine (walk a0 len0 cap0 z0 W w0).mono fun e W' ⟨he, bel⟩ => ?_
  subst he
  exact ⟨_, rfl, _, _, _, [], _, [], hW', trodAll_mk1 (shut_bool Try.underlying4 _), (trodAll_cons_mk (Below.trod laidOut (by kernel_rfl) (of_decide_eq_true (by kernel_rfl)) k0 bel lt0) trodAll_mk0), rfl, bel.frame _, fun h => by cases h⟩

theorem over : Rows.fnCurveRow.holds Try.pinned (OpenSpec.ofChange Rows.fnCurveSpec) :=
  OpenClaim.holds_of_wide 10 Try.f10 rfl rfl rfl rfl rfl rfl rfl ⟨rfl, rfl, rfl, rfl, rfl⟩ rfl rfl rfl rfl rfl (by kernel_rfl) Try.func10 (by kernel_rfl)
    (of_decide_eq_true (by kernel_rfl)) (by unfold Func.isWrapper; first | (rw [if_pos (by decide +kernel)]; kernel_rfl) | (rw [if_neg (by decide +kernel)]; exact ⟨rfl, rfl⟩))
    (fun os started H enc _ => lifted os started H enc)

theorem proved : Rows.FnCurveSaid := over
end Go.Proofs.Yteodefmpkljedaa.fnCurve

namespace Go.Proofs.Yteodefmpkljedaa
theorem fnCurve_holds : Rows.FnCurveSaid := fnCurve.proved
#print axioms fnCurve_holds
end Go.Proofs.Yteodefmpkljedaa
