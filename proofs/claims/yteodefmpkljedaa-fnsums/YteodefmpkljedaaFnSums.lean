/-
  The walk of FnSums, laid into the frame that the kit's program prints.
-/
import Derived.Test.YteodefmpkljedaaRows
import Derived.WalkKit
import Derived.ProofKit
import Derived.OpenShut
import Derived.ShutString
import Derived.ChangeOld
import Derived.Below
import Derived.Test.YteodefmpkljedaaImplSlow
import Derived.Test.YteodefmpkljedaaBytes
namespace Go.Proofs.Yteodefmpkljedaa.fnSums
open Go.ChangeShapes Go.WideShapes Go.ChangeAt Go.RowKit
open Go.ChangeMaps (open_string shut_string)
set_option linter.unusedVariables false

theorem own : ownKnob Try.prog.godebug = none := by kernel_rfl
theorem laidOut : laidOutB Try.prog = true := by kernel_rfl

/-- WHAT THE WALK IS TOLD OF A SLICE OF INTEGERS THAT CAME IN: it is nil; or it leads to a row of 'cap' cells, the numbers 'zs' (the first 'len' are its elements, the rest its spare room), each fitting its kind. -/
def IsRow (k : IntKind) (w : World) (a : Option Addr) (len cap : Nat) (zs : List Int) : Prop :=
  (a = none ∧ len = 0 ∧ cap = 0 ∧ zs = []) ∨
  ∃ x, a = some x ∧ len ≤ cap ∧ cap ≤ maxLen ∧ zs.length = cap ∧ (∀ i, i < zs.length → w.cell? (x.add i) = some (.int k (zs.getD i 0))) ∧ ∀ n ∈ zs, (Lit.int k n).wf = true

theorem rowOk {w : World} {a : Option Addr} {len cap : Nat} {zs : List Int} (h : IsRow .u8 w a len cap zs) : RowOk w a len := by
  rcases h with ⟨rfl, rfl, rfl, rfl⟩ | ⟨x, rfl, h1, h2, h3, h4, h5⟩
  · exact ⟨by unfold maxLen; omega, Or.inl rfl⟩
  · refine ⟨by omega, ?_⟩
    by_cases hz : len = 0
    · exact Or.inl hz
    · obtain ⟨b, off, rfl, hc⟩ := ints_at h4 (by omega)
      have hb := World.block_lt_of_cell? _ _ (hc 0 (by omega))
      exact Or.inr ⟨b, off, zs, rfl, hb, by omega, hc, h5⟩

theorem pieceFacts {b v w : Int} (k : Nat) (h : v = w + b * k) (hw : 0 ≤ w) (hv : v ≤ 10000) (hb : 10 ≤ b) (hb' : b ≤ 1000) :
    Slow.len v w b + Slow.len w 0 b = Slow.len v 0 b ∧ Slow.ticks v w b + Slow.ticks w 0 b = Slow.ticks v 0 b ∧ 0 ≤ Slow.len v w b ∧ Slow.len v w b ≤ 20000000 ∧ 0 ≤ Slow.len w 0 b ∧ Slow.len w 0 b ≤ 20000000 ∧ 0 ≤ Slow.ticks v w b ∧ Slow.ticks v w b ≤ 1001 ∧ 0 ≤ Slow.ticks w 0 b ∧ Slow.ticks w 0 b ≤ 1001 := by
  have hk : 0 ≤ b * (k : Int) := Int.mul_nonneg (by omega) (by omega)
  obtain ⟨p1, p2⟩ := Slow.pieces (b := b) (by omega) k v w h hw
  obtain ⟨l1, l2⟩ := Slow.len_bounds (v := v) (u := w) (b := b) (by omega) (by omega) (by omega) (by omega) (by omega) (by omega)
  obtain ⟨l3, l4⟩ := Slow.len_bounds (v := w) (u := 0) (b := b) (by omega) (by omega) (by omega) (by omega) (by omega) (by omega)
  have f := Slow.fits (v := v) (u := w) (b := b) (by omega) (by omega) (by omega) (by omega) (by omega) (by omega)
  have g := Slow.fits (v := w) (u := 0) (b := b) (by omega) (by omega) (by omega) (by omega) (by omega) (by omega)
  exact ⟨p1, p2, l1, l2, l3, l4, f.t0, f.t1, g.t0, g.t1⟩


set_option maxHeartbeats 2000000 in
theorem walk (a0 : Option Addr) (len0 cap0 : Nat) (z0 : List Int) (w : World) (w0 : IsRow .u8 w a0 len0 cap0 z0) :
    Calls Try.prog 5 #[.slice a0 len0 cap0] w fun e w' => e = .returned (.bool true) ∧ Below w.heap.size w w' := by
  have hrow : Hid (RowOk w a0 len0) := rowOk w0
  clear w0
  have hmax : len0 ≤ 9223372036854775807 := by have := hrow.out.1; unfold maxLen at this; omega
  have hB : Below w.heap.size w w := Below.refl _ _
  by_cases hbig : 1048576 < len0
  · go_enter Try.func5, Try.ntmps5
    go_wp2
    go_ret
    exact ⟨rfl, hB⟩
  · go_enter Try.func5, Try.ntmps5
    go_wp2_with (first
      | (go_at_call_of 20 (Value.int .i64 0); refine (wByte_any _ _ _ _ _ (hrow.out.below hB) (by omega) (by omega)).mono ?_; rintro e w' ⟨y0, rfl, hy0, hy0', rfl⟩)
      | (go_at_call_of 20 (Value.int .i64 1); refine (wByte_any _ _ _ _ _ (hrow.out.below hB) (by omega) (by omega)).mono ?_; rintro e w' ⟨y1, rfl, hy1, hy1', rfl⟩))
    obtain ⟨b, hbe⟩ : ∃ b, 10 + y0 = b := ⟨_, rfl⟩
    obtain ⟨q, hqe⟩ : ∃ q, y1 % 30 = q := ⟨_, rfl⟩
    rw [hbe, hqe]
    have hb0 : 10 ≤ b := by omega
    have hb1 : b ≤ 265 := by omega
    have hq0 : 0 ≤ q := by omega
    have hq1 : q ≤ 29 := by omega
    clear hbe hqe hy0 hy0' hy1 hy1'
    refine (wByte_any _ _ _ _ _ (hrow.out.below hB) (by omega) (by omega)).mono ?_
    rintro e w' ⟨y2, rfl, hy2, hy2', rfl⟩
    obtain ⟨r, hre⟩ : ∃ r, y2 % b = r := ⟨_, rfl⟩
    have hr0 : 0 ≤ r := by rw [← hre]; exact Int.emod_nonneg _ (by omega)
    have hr1 : r < b := by rw [← hre]; exact Int.emod_lt_of_pos _ (by omega)
    have hqb0 : 0 ≤ q * b := Int.mul_nonneg hq0 (by omega)
    have hqb1 : q * b ≤ 7685 := by have := Int.mul_le_mul hq1 hb1 (by omega) (by omega); omega
    have hqr0 : 0 ≤ q * r := Int.mul_nonneg hq0 hr0
    have hqr1 : q * r ≤ 7685 := by have := Int.mul_le_mul hq1 (show r ≤ 265 by omega) hr0 (by omega); omega
    have hcm : b * q = q * b := Int.mul_comm _ _
    have hbq0 : 0 ≤ b * q := by omega
    have hbq1 : b * q ≤ 7685 := by omega
    have hbqq0 : 0 ≤ b * q * (q - 1) := by
      by_cases c : q = 0
      · rw [c]; simp
      · exact Int.mul_nonneg hbq0 (by omega)
    have hbqq1 : b * q * (q - 1) ≤ 222865 := by
      by_cases c : q = 0
      · rw [c]; simp
      · have := Int.mul_le_mul hbq1 (show q - 1 ≤ 29 by omega) (by omega) (by omega); omega
    obtain ⟨sl, st⟩ := Slow.stand (q := q) (r := r) (b := b) hq0 hr0 hr1
    have hcm' : Hid (b * q = q * b) := hcm
    clear hcm
    by_cases hr : 0 < r
    all_goals
      first | rw [if_pos hr] at st | rw [if_neg hr] at st
      by_cases hq : 0 < q
      · go_wp2_with (first
          | (go_at_call 25; refine (implSlowLen_right _ _ _ _ ⟨by omega, by omega, by omega, by omega, by omega, by omega⟩).mono ?_; rintro e w1 ⟨rfl, hb⟩; replace hB := hB.trans (hb.mono hB.size); clear hb)
          | (go_at_call 26; refine (implSlowTicks_right _ _ _ _ ⟨by omega, by omega, by omega, by omega, by omega, by omega⟩).mono ?_; rintro e w1 ⟨rfl, hb⟩; replace hB := hB.trans (hb.mono hB.size); clear hb))
        refine (wByte_any _ _ _ _ _ (hrow.out.below hB) (by omega) (by omega)).mono ?_
        rintro e w2 ⟨y3, rfl, hy3, hy3', rfl⟩
        obtain ⟨k, hke⟩ : ∃ k, y3 % (q + 1) = k := ⟨_, rfl⟩
        have hk0 : 0 ≤ k := by rw [← hke]; exact Int.emod_nonneg _ (by omega)
        have hk1 : k < q + 1 := by rw [← hke]; exact Int.emod_lt_of_pos _ (by omega)
        have hbk0 : 0 ≤ b * k := Int.mul_nonneg (by omega) hk0
        have hbk1 : b * k ≤ q * b := by rw [← hcm'.out]; exact Int.mul_le_mul_of_nonneg_left (by omega) (by omega)
        have F := pieceFacts (b := b) (v := q * b + r) (w := q * b + r - b * k) k.toNat (by rw [show (k.toNat : Int) = k by omega]; omega) (by omega) (by omega) (by omega) (by omega)
        obtain ⟨F1, F2, F3, F4, F5, F6, F7, F8, F9, F10⟩ := F
        go_wp2_with (first
          | (go_at_call 25; refine (implSlowLen_right _ _ _ _ ⟨by omega, by omega, by omega, by omega, by omega, by omega⟩).mono ?_; rintro e w1 ⟨rfl, hb⟩; replace hB := hB.trans (hb.mono hB.size); clear hb)
          | (go_at_call 26; refine (implSlowTicks_right _ _ _ _ ⟨by omega, by omega, by omega, by omega, by omega, by omega⟩).mono ?_; rintro e w1 ⟨rfl, hb⟩; replace hB := hB.trans (hb.mono hB.size); clear hb))
        go_ret
        exact ⟨rfl, hB⟩
      · have hq' : q * b = 0 := by rw [show q = 0 by omega]; simp
        have F := pieceFacts (b := b) (v := q * b + r) (w := r) 0 (by simp; omega) (by omega) (by omega) (by omega) (by omega)
        obtain ⟨F1, F2, F3, F4, F5, F6, F7, F8, F9, F10⟩ := F
        clear hq'
        go_wp2_with (first
          | (go_at_call 25; refine (implSlowLen_right _ _ _ _ ⟨by omega, by omega, by omega, by omega, by omega, by omega⟩).mono ?_; rintro e w1 ⟨rfl, hb⟩; replace hB := hB.trans (hb.mono hB.size); clear hb)
          | (go_at_call 26; refine (implSlowTicks_right _ _ _ _ ⟨by omega, by omega, by omega, by omega, by omega, by omega⟩).mono ?_; rintro e w1 ⟨rfl, hb⟩; replace hB := hB.trans (hb.mono hB.size); clear hb))
        go_ret
        exact ⟨rfl, hB⟩

set_option maxRecDepth 100000 in
theorem lifted (os : Os) (started : os.Started) (H : Type) (enc : TypeId × Value → H) :
    ReturnsInHanded {} Try.checked os 5 .any (Rows.fnSumsSpec.pre6 enc Try.prog Try.f5 Rows.fnSumsRow.domain false) (Rows.fnSumsSpec.post enc Try.prog Try.f5 false true false false) := by
  refine returnsInHanded_of_change (C := Try.checked) own started (by kernel_rfl) Try.func5
    (ChangeSpec.witness6 (enc := enc) (C := Try.checked) false ⟨#[], #[.slice none 0 0], []⟩ 8 (by kernel_rfl) (by kernel_rfl) (by kernel_rfl) (by kernel_rfl)) ?_
  intro W base args ds gs before hval0 hW hcnd _
  have hval : ∀ (j : Nat) t v, Try.f5.params[j]? = some t → args[j]? = some v → Value.okWide Try.prog W .any base t v := hval0
  have hW' := hW
  obtain ⟨p, q, hA0, hV, rfl, hfz, hnd⟩ := hW
  have hA : DataW.TrodAll enc Try.prog W 0 (fun _ => true) true Try.f5.params.toList args.toList ds p := hA0
  rw [Try.params5] at hA hval
  obtain ⟨v0, vs0, d0, ds0, p0, q0, hargs, rfl, rfl, h0, r0⟩ := trodAll_cons hA
  obtain ⟨rfl, rfl, rfl⟩ := trodAll_nil r0
  obtain rfl : args = #[v0] := by cases args; simp_all
  obtain ⟨rfl, rfl⟩ := trodVars_none hV
  obtain ⟨a0, len0, cap0, rfl⟩ := okWide_slice Try.underlying22 (hval 0 22 v0 rfl rfl)
  have k0 := h0
  have lt0 : ∀ x ∈ p0, x.block < W.heap.size := by obtain ⟨m, hm⟩ := k0; exact DataW.trod_lt m _ _ _ hm
  obtain ⟨z0, w0⟩ : ∃ zs, IsRow .u8 W a0 len0 cap0 zs := by
    obtain ⟨fuel, hf⟩ := h0
    rcases open_ints Try.underlying22 Try.underlying5 (by kernel_rfl) hf with ⟨hcs, _⟩ | ⟨x, l, c, zs, hcs, _, hl, hm, hz, _, hcell, hwz⟩
    · simp [Value.cells] at hcs
      obtain ⟨rfl, rfl, rfl⟩ := hcs
      exact ⟨[], .inl ⟨rfl, rfl, rfl, rfl⟩⟩
    · simp [Value.cells] at hcs
      obtain ⟨rfl, rfl, rfl⟩ := hcs
      exact ⟨zs, .inr ⟨_, rfl, hl, hm, by simpa using hz, hcell, hwz⟩⟩
  clear hA0 hval0
  refine (walk a0 len0 cap0 z0 W w0).mono fun e W' ⟨he, bel⟩ => ?_
  subst he
  exact ⟨_, rfl, _, _, _, [], _, [], hW', trodAll_mk1 (shut_bool Try.underlying4 _), (trodAll_cons_mk (Below.trod laidOut (by kernel_rfl) (of_decide_eq_true (by kernel_rfl)) k0 bel lt0) trodAll_mk0), rfl, bel.frame _, fun h => by cases h⟩

theorem over : Rows.fnSumsRow.holds Try.pinned (OpenSpec.ofChange Rows.fnSumsSpec) :=
  OpenClaim.holds_of_wide 5 Try.f5 rfl rfl rfl rfl rfl rfl rfl ⟨rfl, rfl, rfl, rfl, rfl⟩ rfl rfl rfl rfl rfl (by kernel_rfl) Try.func5 (by kernel_rfl)
    (of_decide_eq_true (by kernel_rfl)) (by unfold Func.isWrapper; first | (rw [if_pos (by decide +kernel)]; kernel_rfl) | (rw [if_neg (by decide +kernel)]; exact ⟨rfl, rfl⟩))
    (fun os started H enc _ => lifted os started H enc)

theorem proved : Rows.FnSumsSaid := over
end Go.Proofs.Yteodefmpkljedaa.fnSums

namespace Go.Proofs.Yteodefmpkljedaa
theorem fnSums_holds : Rows.FnSumsSaid := fnSums.proved
#print axioms fnSums_holds
end Go.Proofs.Yteodefmpkljedaa
