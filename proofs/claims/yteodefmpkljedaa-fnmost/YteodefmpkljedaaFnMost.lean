/-
  The walk of FnMost, laid into the frame that the kit's program prints.
-/
import Derived.Test.YteodefmpkljedaaRows
import Derived.WalkKit
import Derived.ProofKit
import Derived.OpenShut
import Derived.ShutString
import Derived.ChangeOld
import Derived.Below
import Derived.Test.YteodefmpkljedaaMost
import Derived.Test.YteodefmpkljedaaLeast
import Derived.Test.YteodefmpkljedaaBytes
namespace Go.Proofs.Yteodefmpkljedaa.fnMost
open Go.ChangeShapes Go.WideShapes Go.ChangeAt Go.RowKit
open Go.ChangeMaps (open_string shut_string)
set_option linter.unusedVariables false

theorem own : ownKnob Try.prog.godebug = none := by kernel_rfl
theorem laidOut : laidOutB Try.prog = true := by kernel_rfl

/-- WHAT THE WALK IS TOLD OF A SLICE OF INTEGERS THAT CAME IN: it is nil; or it leads to a row of 'cap' cells, the numbers 'zs' (the first 'len' are its elements, the rest its spare room), each fitting its kind. -/
def IsRow (k : IntKind) (w : World) (a : Option Addr) (len cap : Nat) (zs : List Int) : Prop :=
  (a = none ∧ len = 0 ∧ cap = 0 ∧ zs = []) ∨
  ∃ x, a = some x ∧ len ≤ cap ∧ cap ≤ maxLen ∧ zs.length = cap ∧ (∀ i, i < zs.length → w.cell? (x.add i) = some (.int k (zs.getD i 0))) ∧ ∀ n ∈ zs, (Lit.int k n).wf = true

theorem rowOk {w : World} {a : Option Addr} {len cap : Nat} {zs : List Int} (h : IsRow .u8 w a len cap zs) : RowOk w a len := by
  rcases h with ⟨rfl, rfl, rfl, rfl⟩ | ⟨x, rfl, h1, h2, h3, h4, h5⟩
  · exact ⟨by unfold maxLen; omega, Or.inl rfl⟩
  · refine ⟨by omega, ?_⟩
    by_cases hz : len = 0
    · exact Or.inl hz
    · obtain ⟨b, off, rfl, hc⟩ := ints_at h4 (by omega)
      have hb := World.block_lt_of_cell? _ _ (hc 0 (by omega))
      exact Or.inr ⟨b, off, zs, rfl, hb, by omega, hc, h5⟩

theorem most_facts {room u b d m : Int} (h : IsMost room u b d m) : 0 ≤ m ∧ m ≤ 10000 ∧ d * m + Slow.len m u b ≤ room ∧ (m < 10000 → room < d * (m + 1) + Slow.len (m + 1) u b) := by
  obtain ⟨h1, h2, h3, h4⟩ := h
  refine ⟨h1, h2, ?_, fun hm => ?_⟩
  · have := h3 m h1 (Int.le_refl _); unfold tooFast at this; simpa using this
  · have := h4 hm; unfold tooFast at this; simpa using this

theorem least_facts {room v u k : Int} (h : IsLeast room v u k) : (k = 0 ∧ room < Slow.len v u 1000) ∨ (10 ≤ k ∧ k ≤ 1000 ∧ Slow.len v u k ≤ room ∧ (10 < k → room < Slow.len v u (k - 1))) := by
  rcases h with ⟨rfl, h⟩ | ⟨h1, h2, h3, h4⟩
  · have := h 1000 (by omega) (by omega); unfold metBy at this; left; exact ⟨rfl, by simpa using this⟩
  · right
    refine ⟨h1, h2, by unfold metBy at h3; simpa using h3, fun hk => ?_⟩
    have := h4 (k - 1) (by omega) (by omega); unfold metBy at this; simpa using this


set_option maxHeartbeats 4000000 in
theorem walk (a0 : Option Addr) (len0 cap0 : Nat) (z0 : List Int) (w : World) (w0 : IsRow .u8 w a0 len0 cap0 z0) :
    Calls Try.prog 4 #[.slice a0 len0 cap0] w fun e w' => e = .returned (.bool true) ∧ Below w.heap.size w w' := by
  have hrow : Hid (RowOk w a0 len0) := rowOk w0
  clear w0
  have hmax : len0 ≤ 9223372036854775807 := by have := hrow.out.1; unfold maxLen at this; omega
  have hB : Below w.heap.size w w := Below.refl _ _
  by_cases hbig : 1048576 < len0
  · go_enter Try.func4, Try.ntmps4
    go_wp2
    go_ret
    exact ⟨rfl, hB⟩
  · go_enter Try.func4, Try.ntmps4
    go_wp2_with (first
      | (go_at_call_of 20 (Value.int .i64 0); refine (wByte_any _ _ _ _ _ (hrow.out.below hB) (by omega) (by omega)).mono ?_; rintro e w' ⟨y0, rfl, p0, p1, rfl⟩)
      | (go_at_call_of 20 (Value.int .i64 1); refine (wByte_any _ _ _ _ _ (hrow.out.below hB) (by omega) (by omega)).mono ?_; rintro e w' ⟨y1, rfl, q0, q1, rfl⟩)
      | (go_at_call_of 20 (Value.int .i64 2); refine (wByte_any _ _ _ _ _ (hrow.out.below hB) (by omega) (by omega)).mono ?_; rintro e w' ⟨y2, rfl, r0, r1, rfl⟩; have m0 : 0 ≤ (y0 + 256 * y1) * (1 + y2 % 50) := Int.mul_nonneg (by omega) (by omega); have m1 : (y0 + 256 * y1) * (1 + y2 % 50) ≤ 3276750 := by { have := Int.mul_le_mul (show y0 + 256 * y1 ≤ 65535 by omega) (show 1 + y2 % 50 ≤ 50 by omega) (by omega) (by omega); omega }))
    obtain ⟨room, hroom⟩ : ∃ room, (y0 + 256 * y1) * (1 + y2 % 50) = room := ⟨_, rfl⟩
    rw [hroom] at m0 m1 ⊢
    clear hroom p0 p1 q0 q1 r0 r1
    go_wp2_with (first
      | (go_at_call_of 20 (Value.int .i64 3); refine (wByte_any _ _ _ _ _ (hrow.out.below hB) (by omega) (by omega)).mono ?_; rintro e w' ⟨y3, rfl, p0, p1, rfl⟩)
      | (go_at_call_of 20 (Value.int .i64 4); refine (wByte_any _ _ _ _ _ (hrow.out.below hB) (by omega) (by omega)).mono ?_; rintro e w' ⟨y4, rfl, r0, r1, rfl⟩; have u0 : 0 ≤ y3 * (y4 % 3) := Int.mul_nonneg (by omega) (by omega); have u1 : y3 * (y4 % 3) ≤ 510 := by { have := Int.mul_le_mul (show y3 ≤ 255 by omega) (show y4 % 3 ≤ 2 by omega) (by omega) (by omega); omega }))
    obtain ⟨u, hu⟩ : ∃ u, y3 * (y4 % 3) = u := ⟨_, rfl⟩
    rw [hu] at u0 u1 ⊢
    clear hu p0 p1 r0 r1
    go_wp2_with (first
      | (go_at_call_of 20 (Value.int .i64 5); refine (wByte_any _ _ _ _ _ (hrow.out.below hB) (by omega) (by omega)).mono ?_; rintro e w' ⟨y5, rfl, p0, p1, rfl⟩)
      | (go_at_call_of 20 (Value.int .i64 6); refine (wByte_any _ _ _ _ _ (hrow.out.below hB) (by omega) (by omega)).mono ?_; rintro e w' ⟨y6, rfl, q0, q1, rfl⟩))
    obtain ⟨b, hb⟩ : ∃ b, 10 + y5 = b := ⟨_, rfl⟩
    obtain ⟨d, hd⟩ : ∃ d, y6 % 5 = d := ⟨_, rfl⟩
    rw [hb, hd]
    have b0 : 10 ≤ b := by omega
    have b1 : b ≤ 265 := by omega
    have d0 : 0 ≤ d := by omega
    have d1 : d ≤ 4 := by omega
    clear hb hd p0 p1 q0 q1
    have HR : Hid (RightMost room u b d) := ⟨by omega, by omega, by omega, by omega, by omega, by omega, by omega, by omega⟩
    refine (implMostSpeed_right _ _ _ _ _ HR.out).mono ?_
    rintro e w1 ⟨m, rfl, hm, hbel⟩
    replace hB := hB.trans (hbel.mono hB.size)
    clear hbel
    obtain ⟨mm0, mm1, mm2, mm3⟩ := most_facts hm
    have HM : Hid (IsMost room u b d m) := hm
    clear hm
    have dm0 : 0 ≤ d * m := Int.mul_nonneg d0 mm0
    have dm1 : d * m ≤ 40000 := by have := Int.mul_le_mul d1 mm1 mm0 (by omega); omega
    have ds0 : 0 ≤ d * (m + 1) := Int.mul_nonneg d0 (by omega)
    have ds1 : d * (m + 1) ≤ 40004 := by have := Int.mul_le_mul d1 (show m + 1 ≤ 10001 by omega) (by omega) (by omega); omega
    obtain ⟨lb0, lb1⟩ := Slow.len_bounds (v := m) (u := u) (b := b) (by omega) (by omega) (by omega) (by omega) (by omega) (by omega)
    by_cases hmx : m < 10000
    all_goals
      first
      | (have mm3' := mm3 hmx; obtain ⟨lc0, lc1⟩ := Slow.len_bounds (v := m + 1) (u := u) (b := b) (by omega) (by omega) (by omega) (by omega) (by omega) (by omega))
      | skip
      clear mm3
      go_wp2_with (first
        | (go_at_call 22; refine (specSlowLen_right _ _ _ _ ⟨by omega, by omega, by omega, by omega, by omega, by omega⟩).mono ?_; rintro e w1 ⟨rfl, rfl⟩)
        | (go_at_call 23; refine (specMostSpeed_right _ _ _ _ _ HR.out).mono ?_; rintro e w1 ⟨m', rfl, hm', rfl⟩; obtain rfl := IsMost.unique HM.out hm'; clear hm'))
      refine (wByte_any _ _ _ _ _ (hrow.out.below hB) (by omega) (by omega)).mono ?_
      rintro e w2 ⟨y7, rfl, k0, k1, rfl⟩
      go_wp2_with fail
      have HL : Hid (RightLeast room (y7 * 9) u) := ⟨by omega, by omega, by omega, by omega, by omega, by omega⟩
      refine (implLeastBrake_right _ _ _ _ HL.out).mono ?_
      rintro e w3 ⟨k, rfl, hk, hbel⟩
      replace hB := hB.trans (hbel.mono hB.size)
      clear hbel
      rcases least_facts hk with ⟨rfl, hk1⟩ | ⟨hk0, hk1, hk2, hk3⟩
      · clear hk
        go_wp2_with (go_at_call 22; refine (specSlowLen_right _ _ _ _ ⟨by omega, by omega, by omega, by omega, by omega, by omega⟩).mono ?_; rintro e w1 ⟨rfl, rfl⟩)
        go_ret
        exact ⟨ret_bool (by simp), hB⟩
      · clear hk
        by_cases hten : 10 < k
        · have hk3' := hk3 hten
          clear hk3
          go_wp2_with (go_at_call 22; refine (specSlowLen_right _ _ _ _ ⟨by omega, by omega, by omega, by omega, by omega, by omega⟩).mono ?_; rintro e w1 ⟨rfl, rfl⟩)
          go_ret
          exact ⟨ret_bool (by first | rfl | simp | (simp; omega)), hB⟩
        · clear hk3
          go_wp2_with (go_at_call 22; refine (specSlowLen_right _ _ _ _ ⟨by omega, by omega, by omega, by omega, by omega, by omega⟩).mono ?_; rintro e w1 ⟨rfl, rfl⟩)
          go_ret
          exact ⟨ret_bool (by first | rfl | simp | (simp; omega)), hB⟩

set_option maxRecDepth 100000 in
theorem lifted (os : Os) (started : os.Started) (H : Type) (enc : TypeId × Value → H) :
    ReturnsInHanded {} Try.checked os 4 .any (Rows.fnMostSpec.pre6 enc Try.prog Try.f4 Rows.fnMostRow.domain false) (Rows.fnMostSpec.post enc Try.prog Try.f4 false true false false) := by
  refine returnsInHanded_of_change (C := Try.checked) own started (by kernel_rfl) Try.func4
    (ChangeSpec.witness6 (enc := enc) (C := Try.checked) false ⟨#[], #[.slice none 0 0], []⟩ 8 (by kernel_rfl) (by kernel_rfl) (by kernel_rfl) (by kernel_rfl)) ?_
  intro W base args ds gs before hval0 hW hcnd _
  have hval : ∀ (j : Nat) t v, Try.f4.params[j]? = some t → args[j]? = some v → Value.okWide Try.prog W .any base t v := hval0
  have hW' := hW
  obtain ⟨p, q, hA0, hV, rfl, hfz, hnd⟩ := hW
  have hA : DataW.TrodAll enc Try.prog W 0 (fun _ => true) true Try.f4.params.toList args.toList ds p := hA0
  rw [Try.params4] at hA hval
  obtain ⟨v0, vs0, d0, ds0, p0, q0, hargs, rfl, rfl, h0, r0⟩ := trodAll_cons hA
  obtain ⟨rfl, rfl, rfl⟩ := trodAll_nil r0
  obtain rfl : args = #[v0] := by cases args; simp_all
  obtain ⟨rfl, rfl⟩ := trodVars_none hV
  obtain ⟨a0, len0, cap0, rfl⟩ := okWide_slice Try.underlying22 (hval 0 22 v0 rfl rfl)
  have k0 := h0
  have lt0 : ∀ x ∈ p0, x.block < W.heap.size := by obtain ⟨m, hm⟩ := k0; exact DataW.trod_lt m _ _ _ hm
  obtain ⟨z0, w0⟩ : ∃ zs, IsRow .u8 W a0 len0 cap0 zs := by
    obtain ⟨fuel, hf⟩ := h0
    rcases open_ints Try.underlying22 Try.underlying5 (by kernel_rfl) hf with ⟨hcs, _⟩ | ⟨x, l, c, zs, hcs, _, hl, hm, hz, _, hcell, hwz⟩
    · simp [Value.cells] at hcs
      obtain ⟨rfl, rfl, rfl⟩ := hcs
      exact ⟨[], .inl ⟨rfl, rfl, rfl, rfl⟩⟩
    · simp [Value.cells] at hcs
      obtain ⟨rfl, rfl, rfl⟩ := hcs
      exact ⟨zs, .inr ⟨_, rfl, hl, hm, by simpa using hz, hcell, hwz⟩⟩
  clear hA0 hval0
  refine (walk a0 len0 cap0 z0 W w0).mono fun e W' ⟨he, bel⟩ => ?_
  subst he
  exact ⟨_, rfl, _, _, _, [], _, [], hW', trodAll_mk1 (shut_bool Try.underlying4 _), (trodAll_cons_mk (Below.trod laidOut (by kernel_rfl) (of_decide_eq_true (by kernel_rfl)) k0 bel lt0) trodAll_mk0), rfl, bel.frame _, fun h => by cases h⟩

theorem over : Rows.fnMostRow.holds Try.pinned (OpenSpec.ofChange Rows.fnMostSpec) :=
  OpenClaim.holds_of_wide 4 Try.f4 rfl rfl rfl rfl rfl rfl rfl ⟨rfl, rfl, rfl, rfl, rfl⟩ rfl rfl rfl rfl rfl (by kernel_rfl) Try.func4 (by kernel_rfl)
    (of_decide_eq_true (by kernel_rfl)) (by unfold Func.isWrapper; first | (rw [if_pos (by decide +kernel)]; kernel_rfl) | (rw [if_neg (by decide +kernel)]; exact ⟨rfl, rfl⟩))
    (fun os started H enc _ => lifted os started H enc)

theorem proved : Rows.FnMostSaid := over
end Go.Proofs.Yteodefmpkljedaa.fnMost

namespace Go.Proofs.Yteodefmpkljedaa
theorem fnMost_holds : Rows.FnMostSaid := fnMost.proved
#print axioms fnMost_holds
end Go.Proofs.Yteodefmpkljedaa
