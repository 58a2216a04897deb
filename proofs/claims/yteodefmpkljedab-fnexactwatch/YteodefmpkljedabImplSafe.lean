/-
  The program's Safe.
-/
import Derived.Test.YteodefmpkljedabCourse3
namespace Go.Proofs.Yteodefmpkljedab
open Go.RowKit
attribute [local go_sem ↓] Go.wp_at_zero Go.wp_at_succ
set_option linter.unusedVariables false

theorem Prof.safeAns_with {P : Prof} {x u : Int} (h : P.With x) : P.safeAns x u = P.isSafe x u := by
  have hw := Prof.with_iff.2 h
  unfold Prof.safeAns Prof.isSafe
  congr 1
  by_cases c : 0 ≤ u ∧ u ≤ 10000
  · rw [decide_eq_true c, decide_eq_true ⟨hw.1, hw.2.1, hw.2.2, c.1, c.2⟩]
  · rw [decide_eq_false c, decide_eq_false (fun d => c ⟨d.2.2.2.1, d.2.2.2.2⟩)]
theorem Prof.safeAns_no {P : Prof} {x u : Int} (h : ¬ P.With x) : P.safeAns x u = false := by
  unfold Prof.safeAns
  rw [decide_eq_false (fun d => h (Prof.with_iff.1 ⟨d.1, d.2.1, d.2.2.1⟩))]
  rfl

set_option maxHeartbeats 4000000 in
theorem implSafe_yes (P : Prof) (v : Value) (x u : Int) (w : World) (hl : P.Lies w v) (h : P.With x) :
    Calls Try.prog 28 #[v, .int .i64 x, .int .i64 u] w fun e w' => e = .returned (.bool (P.safeAns x u)) ∧ Below w.heap.size w w' := by
  have HV : Hid (P.Lies w v) := hl
  have HA : Hid (P.With x) := h
  obtain ⟨ap, cp, az, cz, rfl, hn, hn', hr2, hr3⟩ := hl
  have hx0 := h.2.1
  have hx1 := h.2.2
  have ht := Prof.total_less h.1.lens
  clear hr2 hr3 h
  go_enter Try.func28, Try.ntmps28
  go_wp2_with fail
  have b0 : Below w.heap.size w (w.alloc (.cells #[.slice ap P.np cp, .slice az P.nz cz, .int .i64 P.train, .int .i64 P.fin, .int .i64 P.delay] 33)) := (Below.refl _ _).alloc (Nat.le_refl _) _
  refine (courseWith_yes P _ x _ (HV.out.below b0) HA.out).mono ?_
  rintro e w2 ⟨v', rfl, hc, hb2⟩
  have b2 := b0.trans (hb2.mono b0.size)
  have HC : Hid (P.CourseIs w2 v') := hc
  obtain ⟨bp, dp, bz, dz, g, h, n, cn, b, rfl, hc⟩ := hc
  clear hb2 hc b0
  go_wp2_with fail
  have bq : Below w2.heap.size w2 (w2.alloc (.cells #[.slice bp P.np dp, .slice bz P.nz dz, .int .i64 P.train, .int .i64 P.fin, .int .i64 P.delay, .slice (some ⟨g, 0, none⟩) P.np P.np, .slice (some ⟨h, 0, none⟩) n cn] 94)) := (Below.refl _ _).alloc (Nat.le_refl _) _
  refine (isSafe_any P _ x u _ (HC.out.below bq) HA.out.1.fit hx0 (by omega)).mono ?_
  rintro e w4 ⟨rfl, hb4⟩
  have b4 := (b2.trans (bq.mono b2.size)).trans (hb4.mono (by have := b2.size; simp; omega))
  have HE : Hid (P.safeAns x u = P.isSafe x u) := Prof.safeAns_with HA.out
  clear hb4 bq
  generalize hr : P.isSafe x u = r at HE ⊢
  clear hr
  cases r
  all_goals go_wp2
  all_goals go_ret
  all_goals exact ⟨ret_bool HE.out.symm, b4⟩

set_option maxHeartbeats 4000000 in
theorem implSafe_no (P : Prof) (v : Value) (x u : Int) (w : World) (hl : P.Lies w v) (h : ¬ P.With x) :
    Calls Try.prog 28 #[v, .int .i64 x, .int .i64 u] w fun e w' => e = .returned (.bool (P.safeAns x u)) ∧ Below w.heap.size w w' := by
  have HV : Hid (P.Lies w v) := hl
  have HA : Hid (¬ P.With x) := h
  obtain ⟨ap, cp, az, cz, rfl, hn, hn', hr2, hr3⟩ := hl
  clear hr2 hr3 h
  go_enter Try.func28, Try.ntmps28
  go_wp2_with fail
  have b0 : Below w.heap.size w (w.alloc (.cells #[.slice ap P.np cp, .slice az P.nz cz, .int .i64 P.train, .int .i64 P.fin, .int .i64 P.delay] 33)) := (Below.refl _ _).alloc (Nat.le_refl _) _
  refine (courseWith_no P _ x _ (HV.out.below b0) HA.out).mono ?_
  rintro e w2 ⟨rfl, hb2⟩
  have b2 := b0.trans (hb2.mono b0.size)
  clear hb2 b0
  go_wp2
  go_ret
  exact ⟨ret_bool (Prof.safeAns_no HA.out).symm, b2.alloc b2.size _⟩

theorem implSafe_any (P : Prof) (v : Value) (x u : Int) (w : World) (hl : P.Lies w v) :
    Calls Try.prog 28 #[v, .int .i64 x, .int .i64 u] w fun e w' => e = .returned (.bool (P.safeAns x u)) ∧ Below w.heap.size w w' := by
  by_cases h : P.With x
  · exact implSafe_yes P v x u w hl h
  · exact implSafe_no P v x u w hl h

end Go.Proofs.Yteodefmpkljedab
