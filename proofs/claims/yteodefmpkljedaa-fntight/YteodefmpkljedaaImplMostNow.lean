/-
  The program's MostNow.
-/
import Derived.Test.YteodefmpkljedaaWeak
namespace Go.Proofs.Yteodefmpkljedaa
open Go.RowKit
attribute [local go_sem ↓] Go.wp_at_zero Go.wp_at_succ
set_option linter.unusedVariables false

set_option maxHeartbeats 4000000 in
theorem implMostNow_yes (P : Prof) (v : Value) (x : Int) (w : World) (hl : P.Lies w v) (h : P.With x) :
    Calls Try.prog 27 #[v, .int .i64 x] w fun e w' => e = .returned (.int .i64 (P.mostAns x)) ∧ Below w.heap.size w w' := by
  have HV : Hid (P.Lies w v) := hl
  have HA : Hid (P.With x) := h
  obtain ⟨ap, cp, az, cz, rfl, hn, hn', hr2, hr3⟩ := hl
  have hx0 := h.2.1
  have hx1 := h.2.2
  have ht := Prof.total_less h.1.lens
  clear hr2 hr3 h
  go_enter Try.func27, Try.ntmps27
  go_wp2_with fail
  have b0 : Below w.heap.size w (w.alloc (.cells #[.slice ap P.np cp, .slice az P.nz cz, .int .i64 P.train, .int .i64 P.fin, .int .i64 P.delay] 26)) := (Below.refl _ _).alloc (Nat.le_refl _) _
  refine (courseWith_yes P _ x _ (HV.out.below b0) HA.out).mono ?_
  rintro e w2 ⟨v', rfl, hc, hb2⟩
  have b2 := b0.trans (hb2.mono b0.size)
  have HC : Hid (P.CourseIs w2 v') := hc
  obtain ⟨bp, dp, bz, dz, g, h, n, cn, b, rfl, hc⟩ := hc
  clear hb2 hc b0
  go_wp2_with fail
  have bq : Below w2.heap.size w2 (w2.alloc (.cells #[.slice bp P.np dp, .slice bz P.nz dz, .int .i64 P.train, .int .i64 P.fin, .int .i64 P.delay, .slice (some ⟨g, 0, none⟩) P.np P.np, .slice (some ⟨h, 0, none⟩) n cn] 71)) := (Below.refl _ _).alloc (Nat.le_refl _) _
  refine (mostNow_any P _ x _ (HC.out.below bq) HA.out.1 hx0 (by omega)).mono ?_
  rintro e w4 ⟨rfl, hb4⟩
  have b4 := (b2.trans (bq.mono b2.size)).trans (hb4.mono (by have := b2.size; simp; omega))
  have HE : Hid (P.mostAns x = P.most x) := if_pos (Prof.with_iff.2 HA.out)
  clear hb4 bq
  go_wp2
  go_ret
  exact ⟨ret_int HE.out.symm, b4⟩

set_option maxHeartbeats 4000000 in
theorem implMostNow_no (P : Prof) (v : Value) (x : Int) (w : World) (hl : P.Lies w v) (h : ¬ P.With x) :
    Calls Try.prog 27 #[v, .int .i64 x] w fun e w' => e = .returned (.int .i64 (P.mostAns x)) ∧ Below w.heap.size w w' := by
  have HV : Hid (P.Lies w v) := hl
  have HA : Hid (¬ P.With x) := h
  obtain ⟨ap, cp, az, cz, rfl, hn, hn', hr2, hr3⟩ := hl
  clear hr2 hr3 h
  go_enter Try.func27, Try.ntmps27
  go_wp2_with fail
  have b0 : Below w.heap.size w (w.alloc (.cells #[.slice ap P.np cp, .slice az P.nz cz, .int .i64 P.train, .int .i64 P.fin, .int .i64 P.delay] 26)) := (Below.refl _ _).alloc (Nat.le_refl _) _
  refine (courseWith_no P _ x _ (HV.out.below b0) HA.out).mono ?_
  rintro e w2 ⟨rfl, hb2⟩
  have b2 := b0.trans (hb2.mono b0.size)
  have HE : Hid (P.mostAns x = -1) := if_neg (fun c => HA.out (Prof.with_iff.1 c))
  clear hb2 b0
  go_wp2
  go_ret
  exact ⟨ret_int HE.out.symm, b2.alloc b2.size _⟩

theorem implMostNow_any (P : Prof) (v : Value) (x : Int) (w : World) (hl : P.Lies w v) :
    Calls Try.prog 27 #[v, .int .i64 x] w fun e w' => e = .returned (.int .i64 (P.mostAns x)) ∧ Below w.heap.size w w' := by
  by_cases h : P.With x
  · exact implMostNow_yes P v x w hl h
  · exact implMostNow_no P v x w hl h

end Go.Proofs.Yteodefmpkljedaa
