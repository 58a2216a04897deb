/-
  The walk of FnSafe, laid into the frame that the kit's program prints.
-/
import Derived.Test.YteodefmpkljedaaRows
import Derived.WalkKit
import Derived.ProofKit
import Derived.OpenShut
import Derived.ShutString
import Derived.ChangeOld
import Derived.Below
import Derived.Test.YteodefmpkljedaaLawSafe
import Derived.Test.YteodefmpkljedaaSpecSafe2
import Derived.Test.YteodefmpkljedaaImplSafe
import Derived.Test.YteodefmpkljedaaImplMostNow
namespace Go.Proofs.Yteodefmpkljedaa.fnSafe
open Go.ChangeShapes Go.WideShapes Go.ChangeAt Go.RowKit
open Go.ChangeMaps (open_string shut_string)
set_option linter.unusedVariables false

theorem own : ownKnob Try.prog.godebug = none := by kernel_rfl
theorem laidOut : laidOutB Try.prog = true := by kernel_rfl

/-- WHAT THE WALK IS TOLD OF A SLICE OF INTEGERS THAT CAME IN: it is nil; or it leads to a row of 'cap' cells, the numbers 'zs' (the first 'len' are its elements, the rest its spare room), each fitting its kind. -/
def IsRow (k : IntKind) (w : World) (a : Option Addr) (len cap : Nat) (zs : List Int) : Prop :=
  (a = none ∧ len = 0 ∧ cap = 0 ∧ zs = []) ∨
  ∃ x, a = some x ∧ len ≤ cap ∧ cap ≤ maxLen ∧ zs.length = cap ∧ (∀ i, i < zs.length → w.cell? (x.add i) = some (.int k (zs.getD i 0))) ∧ ∀ n ∈ zs, (Lit.int k n).wf = true

theorem lawRow {w : World} {a : Option Addr} {len cap : Nat} {zs : List Int} (h : IsRow .u8 w a len cap zs) : RowOk w a len := by
  rcases h with ⟨rfl, rfl, rfl, rfl⟩ | ⟨x, rfl, h1, h2, h3, h4, h5⟩
  · exact ⟨by unfold maxLen; omega, Or.inl rfl⟩
  · refine ⟨by omega, ?_⟩
    by_cases hz : len = 0
    · exact Or.inl hz
    · obtain ⟨b, off, rfl, hc⟩ := ints_at h4 (by omega)
      have hb := World.block_lt_of_cell? _ _ (hc 0 (by omega))
      exact Or.inr ⟨b, off, zs, rfl, hb, by omega, hc, h5⟩

set_option maxHeartbeats 8000000 in
theorem walk (a0 : Option Addr) (len0 cap0 : Nat) (z0 : List Int) (w : World) (w0 : IsRow .u8 w a0 len0 cap0 z0) :
    Calls Try.prog 6 #[.slice a0 len0 cap0] w fun e w' => e = .returned (.bool true) ∧ Below w.heap.size w w' := by
  have hrow : Hid (RowOk w a0 len0) := lawRow w0
  clear w0
  have hmax : len0 ≤ 9223372036854775807 := by have := hrow.out.1; unfold maxLen at this; omega
  by_cases hbig : 1048576 < len0
  · go_enter Try.func6, Try.ntmps6
    go_wp2
    go_ret
    exact ⟨rfl, Below.refl _ _⟩
  · obtain ⟨P, x, n3, z3, hok, hx0, hx1, _, HPr⟩ := drawn_any cap0 hrow.out (by omega)
    have HOK : Hid P.Ok := hok
    obtain ⟨m0, m1, m2, m3⟩ := hok.most_facts hx0 hx1
    have HM2 : Hid (∀ v, 0 ≤ v → v ≤ P.mostAns x → P.safeAns x v = true) := m2
    have HM3 : Hid (P.mostAns x < 10000 → P.safeAns x (P.mostAns x + 1) = false) := m3
    obtain ⟨f0, f1⟩ := hok.fin
    have htot := (Prof.total_bounds hok.lens).2
    obtain ⟨d0, d1⟩ := hok.delay
    clear m2 m3 hok
    obtain ⟨m, hm⟩ : ∃ m, P.mostAns x = m := ⟨_, rfl⟩
    rw [hm] at m0 m1 HM2 HM3
    go_enter Try.func6, Try.ntmps6
    go_wp2_with fail
    refine (HPr.out _ (Below.refl _ _)).mono ?_
    rintro e w1 ⟨ap, cp, az, cz, a3, c3, rfl, hl1, _, hb1⟩
    have HL1 : Hid (P.Lies w1 (.agg #[.slice ap P.np cp, .slice az P.nz cz, .int .i64 P.train, .int .i64 P.fin, .int .i64 P.delay])) := hl1
    clear hl1
    go_wp2_with fail
    obtain ⟨pb, hpb⟩ : ∃ pb, w1.heap.size = pb := ⟨_, rfl⟩
    rw [hpb]
    generalize hW1 : w1.alloc _ = W1
    have bq : Below w1.heap.size w1 W1 := by rw [← hW1]; exact (Below.refl _ _).alloc (Nat.le_refl _) _
    have hbox : P.BoxAt W1 pb ap az cp cz := by subst hW1 hpb; exact ⟨by go_simp, by go_simp, by go_simp, by go_simp, by go_simp⟩
    have HL : Hid (P.Lies W1 (.agg #[.slice ap P.np cp, .slice az P.nz cz, .int .i64 P.train, .int .i64 P.fin, .int .i64 P.delay])) := HL1.out.below bq
    have B1 := hb1.trans (bq.mono hb1.size)
    have HB : Hid (P.BoxAt W1 pb ap az cp cz) := hbox
    have lp := hbox.lt
    clear hW1 bq hbox hb1 HL1 hpb
    refine (implMostNow_any P _ _ _ HL.out).mono ?_
    rintro e w2 ⟨rfl, T2⟩
    rw [hm]
    have hb2 := HB.out.below T2
    obtain ⟨x0, x1, x2, x3, x4⟩ := hb2
    rcases Int.lt_or_le m 10000 with hlt | hge
    · go_wp2_with fail
      refine (implSafe_any P _ _ _ _ (HL.out.below T2)).mono ?_
      rintro e w3 ⟨rfl, hb3⟩
      rw [HM3.out hlt]
      have T3 := T2.trans (hb3.mono T2.size)
      have hb3' := HB.out.below T3
      clear x0 x1 x2 x3 x4
      obtain ⟨x0, x1, x2, x3, x4⟩ := hb3'
      go_wp2_with fail
      refine (implSafe_any P _ _ _ _ (HL.out.below T3)).mono ?_
      rintro e w4 ⟨rfl, hb4⟩
      rw [HM2.out 0 (by omega) m0]
      have T4 := T3.trans (hb4.mono T3.size)
      clear x0 x1 x2 x3 x4 hb3 hb4
      go_wp2_with fail
      go_loopw [7] (fun i wr => ∃ k : Nat, k ≤ 12 ∧ i = .int .i64 k ∧ Below W1.heap.size W1 wr) (fun i _ => 12 - (intOf i).toNat)
      case atStart => exact ⟨0, Nat.zero_le _, rfl, T4⟩
      case round =>
        obtain ⟨k, hk, rfl, hbel⟩ := hrel
        have hbx := HB.out.below hbel
        obtain ⟨x0, x1, x2, x3, x4⟩ := hbx
        by_cases hlt : k < 12
        · have i1 : (k : Int) < 12 := by omega
          have i0 : (0 : Int) ≤ (k : Int) := by omega
          go_wp2_with fail
          refine (wByte_any _ _ _ _ _ ((hrow.out.below B1).below hbel) (by omega) (by omega)).mono ?_
          rintro e w5 ⟨y, rfl, y0, y1, rfl⟩
          have t0 : 0 ≤ m * y := Int.mul_nonneg m0 y0
          have t1 : m * y ≤ m * 255 := Int.mul_le_mul_of_nonneg_left y1 m0
          obtain ⟨t, ht⟩ : ∃ t, m * y = t := ⟨_, rfl⟩
          rw [ht] at t0 t1
          have hq0 : 0 ≤ t.tdiv 255 ∧ t.tdiv 255 ≤ m := by rw [Int.tdiv_eq_ediv_of_nonneg t0]; omega
          obtain ⟨q, hq⟩ : ∃ q, t.tdiv 255 = q := ⟨_, rfl⟩
          rw [hq] at hq0
          obtain ⟨q0, q1⟩ := hq0
          clear y0 y1
          go_wp2_with fail
          refine (implSafe_any P _ _ _ _ (HL.out.below hbel)).mono ?_
          rintro e w6 ⟨rfl, hb6⟩
          rw [HM2.out q q0 q1]
          have T6 := hbel.trans (hb6.mono hbel.size)
          have hb6' := HB.out.below T6
          clear x0 x1 x2 x3 x4 hb6 ht hq
          obtain ⟨x0, x1, x2, x3, x4⟩ := hb6'
          go_wp2_with fail
          refine (specSafe_any P _ _ _ _ (HL.out.below T6)).mono ?_
          rintro e w7 ⟨rfl, hb7⟩
          rw [HM2.out q q0 q1]
          have T7 := T6.trans (hb7.mono T6.size)
          have hb7' := HB.out.below T7
          clear x0 x1 x2 x3 x4 hb7
          obtain ⟨x0, x1, x2, x3, x4⟩ := hb7'
          have u0 : 0 ≤ q * (P.delay + 1) := Int.mul_nonneg q0 (by omega)
          have u1 : q * (P.delay + 1) ≤ 10000 * 21 := Int.mul_le_mul (by omega) (by omega) (by omega) (by omega)
          have u2 : 0 < q → x + q * (P.delay + 1) ≤ P.fin := fun c => HOK.out.safe_delay hx0 hx1 c (by omega) (HM2.out q q0 q1)
          obtain ⟨u, hu⟩ : ∃ u, q * (P.delay + 1) = u := ⟨_, rfl⟩
          rw [hu] at u0 u1 u2
          rcases Int.lt_or_le 0 q with c | c
          · have u3 := u2 c
            clear u2
            go_wp2
            go_roundw
            case rel => exact ⟨k + 1, by omega, by go_num, T7⟩
            case measure => simp [intOf]; omega
          · clear u2
            have c' : ¬ 0 < q := by omega
            go_wp2
            go_roundw
            case rel => exact ⟨k + 1, by omega, by go_num, T7⟩
            case measure => simp [intOf]; omega
        · have i1 : ¬ (k : Int) < 12 := by omega
          go_wp2_with fail
          refine (specMostNow_any P _ _ _ (HL.out.below hbel)).mono ?_
          rintro e w5 ⟨rfl, hb5⟩
          rw [hm]
          have T5 := hbel.trans (hb5.mono hbel.size)
          go_wp2
          go_ret
          exact ⟨by simp, B1.trans (T5.mono B1.size)⟩
    · go_wp2_with fail
      refine (implSafe_any P _ _ _ _ (HL.out.below T2)).mono ?_
      rintro e w4 ⟨rfl, hb4⟩
      rw [HM2.out 0 (by omega) m0]
      have T4 := T2.trans (hb4.mono T2.size)
      clear x0 x1 x2 x3 x4 hb4
      go_wp2_with fail
      go_loopw [7] (fun i wr => ∃ k : Nat, k ≤ 12 ∧ i = .int .i64 k ∧ Below W1.heap.size W1 wr) (fun i _ => 12 - (intOf i).toNat)
      case atStart => exact ⟨0, Nat.zero_le _, rfl, T4⟩
      case round =>
        obtain ⟨k, hk, rfl, hbel⟩ := hrel
        have hbx := HB.out.below hbel
        obtain ⟨x0, x1, x2, x3, x4⟩ := hbx
        by_cases hlt : k < 12
        · have i1 : (k : Int) < 12 := by omega
          have i0 : (0 : Int) ≤ (k : Int) := by omega
          go_wp2_with fail
          refine (wByte_any _ _ _ _ _ ((hrow.out.below B1).below hbel) (by omega) (by omega)).mono ?_
          rintro e w5 ⟨y, rfl, y0, y1, rfl⟩
          have t0 : 0 ≤ m * y := Int.mul_nonneg m0 y0
          have t1 : m * y ≤ m * 255 := Int.mul_le_mul_of_nonneg_left y1 m0
          obtain ⟨t, ht⟩ : ∃ t, m * y = t := ⟨_, rfl⟩
          rw [ht] at t0 t1
          have hq0 : 0 ≤ t.tdiv 255 ∧ t.tdiv 255 ≤ m := by rw [Int.tdiv_eq_ediv_of_nonneg t0]; omega
          obtain ⟨q, hq⟩ : ∃ q, t.tdiv 255 = q := ⟨_, rfl⟩
          rw [hq] at hq0
          obtain ⟨q0, q1⟩ := hq0
          clear y0 y1
          go_wp2_with fail
          refine (implSafe_any P _ _ _ _ (HL.out.below hbel)).mono ?_
          rintro e w6 ⟨rfl, hb6⟩
          rw [HM2.out q q0 q1]
          have T6 := hbel.trans (hb6.mono hbel.size)
          have hb6' := HB.out.below T6
          clear x0 x1 x2 x3 x4 hb6 ht hq
          obtain ⟨x0, x1, x2, x3, x4⟩ := hb6'
          go_wp2_with fail
          refine (specSafe_any P _ _ _ _ (HL.out.below T6)).mono ?_
          rintro e w7 ⟨rfl, hb7⟩
          rw [HM2.out q q0 q1]
          have T7 := T6.trans (hb7.mono T6.size)
          have hb7' := HB.out.below T7
          clear x0 x1 x2 x3 x4 hb7
          obtain ⟨x0, x1, x2, x3, x4⟩ := hb7'
          have u0 : 0 ≤ q * (P.delay + 1) := Int.mul_nonneg q0 (by omega)
          have u1 : q * (P.delay + 1) ≤ 10000 * 21 := Int.mul_le_mul (by omega) (by omega) (by omega) (by omega)
          have u2 : 0 < q → x + q * (P.delay + 1) ≤ P.fin := fun c => HOK.out.safe_delay hx0 hx1 c (by omega) (HM2.out q q0 q1)
          obtain ⟨u, hu⟩ : ∃ u, q * (P.delay + 1) = u := ⟨_, rfl⟩
          rw [hu] at u0 u1 u2
          rcases Int.lt_or_le 0 q with c | c
          · have u3 := u2 c
            clear u2
            go_wp2
            go_roundw
            case rel => exact ⟨k + 1, by omega, by go_num, T7⟩
            case measure => simp [intOf]; omega
          · clear u2
            have c' : ¬ 0 < q := by omega
            go_wp2
            go_roundw
            case rel => exact ⟨k + 1, by omega, by go_num, T7⟩
            case measure => simp [intOf]; omega
        · have i1 : ¬ (k : Int) < 12 := by omega
          go_wp2_with fail
          refine (specMostNow_any P _ _ _ (HL.out.below hbel)).mono ?_
          rintro e w5 ⟨rfl, hb5⟩
          rw [hm]
          have T5 := hbel.trans (hb5.mono hbel.size)
          go_wp2
          go_ret
          exact ⟨by simp, B1.trans (T5.mono B1.size)⟩

set_option maxRecDepth 100000 in
theorem lifted (os : Os) (started : os.Started) (H : Type) (enc : TypeId × Value → H) :
    ReturnsInHanded {} Try.checked os 6 .any (Rows.fnSafeSpec.pre6 enc Try.prog Try.f6 Rows.fnSafeRow.domain false) (Rows.fnSafeSpec.post enc Try.prog Try.f6 false true false false) := by
  refine returnsInHanded_of_change (C := Try.checked) own started (by kernel_rfl) Try.func6
    (ChangeSpec.witness6 (enc := enc) (C := Try.checked) false ⟨#[], #[.slice none 0 0], []⟩ 8 (by kernel_rfl) (by kernel_rfl) (by kernel_rfl) (by kernel_rfl)) ?_
  intro W base args ds gs before hval0 hW hcnd _
  have hval : ∀ (j : Nat) t v, Try.f6.params[j]? = some t → args[j]? = some v → Value.okWide Try.prog W .any base t v := hval0
  have hW' := hW
  obtain ⟨p, q, hA0, hV, rfl, hfz, hnd⟩ := hW
  have hA : DataW.TrodAll enc Try.prog W 0 (fun _ => true) true Try.f6.params.toList args.toList ds p := hA0
  rw [Try.params6] at hA hval
  obtain ⟨v0, vs0, d0, ds0, p0, q0, hargs, rfl, rfl, h0, r0⟩ := trodAll_cons hA
  obtain ⟨rfl, rfl, rfl⟩ := trodAll_nil r0
  obtain rfl : args = #[v0] := by cases args; simp_all
  obtain ⟨rfl, rfl⟩ := trodVars_none hV
  obtain ⟨a0, len0, cap0, rfl⟩ := okWide_slice Try.underlying22 (hval 0 22 v0 rfl rfl)
  have k0 := h0
  have lt0 : ∀ x ∈ p0, x.block < W.heap.size := by obtain ⟨m, hm⟩ := k0; exact DataW.trod_lt m _ _ _ hm
  obtain ⟨z0, w0⟩ : ∃ zs, IsRow .u8 W a0 len0 cap0 zs := by
    obtain ⟨fuel, hf⟩ := h0
    rcases open_ints Try.underlying22 Try.underlying5 (by kernel_rfl) hf with ⟨hcs, _⟩ | ⟨x, l, c, zs, hcs, _, hl, hm, hz, _, hcell, hwz⟩
    · simp [Value.cells] at hcs
      obtain ⟨rfl, rfl, rfl⟩ := hcs
      exact ⟨[], .inl ⟨rfl, rfl, rfl, rfl⟩⟩
    · simp [Value.cells] at hcs
      obtain ⟨rfl, rfl, rfl⟩ := hcs
      exact ⟨zs, .inr ⟨_, rfl, hl, hm, by simpa using hz, hcell, hwz⟩⟩
  clear hA0 hval0
  refine (walk a0 len0 cap0 z0 W w0).mono fun e W' ⟨he, bel⟩ => ?_
  subst he
  exact ⟨_, rfl, _, _, _, [], _, [], hW', trodAll_mk1 (shut_bool Try.underlying4 _), (trodAll_cons_mk (Below.trod laidOut (by kernel_rfl) (of_decide_eq_true (by kernel_rfl)) k0 bel lt0) trodAll_mk0), rfl, bel.frame _, fun h => by cases h⟩

theorem over : Rows.fnSafeRow.holds Try.pinned (OpenSpec.ofChange Rows.fnSafeSpec) :=
  OpenClaim.holds_of_wide 6 Try.f6 rfl rfl rfl rfl rfl rfl rfl ⟨rfl, rfl, rfl, rfl, rfl⟩ rfl rfl rfl rfl rfl (by kernel_rfl) Try.func6 (by kernel_rfl)
    (of_decide_eq_true (by kernel_rfl)) (by unfold Func.isWrapper; first | (rw [if_pos (by decide +kernel)]; kernel_rfl) | (rw [if_neg (by decide +kernel)]; exact ⟨rfl, rfl⟩))
    (fun os started H enc _ => lifted os started H enc)

theorem proved : Rows.FnSafeSaid := over
end Go.Proofs.Yteodefmpkljedaa.fnSafe

namespace Go.Proofs.Yteodefmpkljedaa
theorem fnSafe_holds : Rows.FnSafeSaid := fnSafe.proved
#print axioms fnSafe_holds
end Go.Proofs.Yteodefmpkljedaa
