/-
  The model's ProfileOk: the first fault.
-/
import Derived.Test.YteodefmpkljedaaDoorSpecProf
import Derived.Lib.QuietBelow
import Derived.BigQuiet
namespace Go.Proofs.YteodefmpkljedaaDoor
open Go.RowKit Go.Sort
set_option linter.unusedVariables false

set_option maxHeartbeats 4000000 in
theorem specOk_counts (P : Prof) (v : Value) (w : World) (hl : P.Lies w v) (h : ¬ P.Counts) :
    Calls Tryd.prog 17 #[v] w fun e w' => e = .returned (.int .i64 P.code) ∧ Below w.heap.size w w' := by
  obtain ⟨ap, cp, az, cz, rfl, hn, hn', hr2, hr3⟩ := hl
  have HC : Hid (P.code = 1) := code_1 h
  clear hr2 hr3
  unfold Prof.Counts at h
  by_cases h1 : P.np = 0
  · have h1' : ((P.np : Int) == 0) = true := by simp [h1]
    clear h
    go_enter Tryd.func17, Tryd.ntmps17
    go_wp2
    go_ret
    exact ⟨ret_int HC.out.symm, (Below.refl _ _).alloc (Nat.le_refl _) _⟩
  · have h1' : ((P.np : Int) == 0) = false := by simpa using h1
    by_cases h2 : 60 < P.np
    · clear h
      go_enter Tryd.func17, Tryd.ntmps17
      go_wp2
      go_ret
      exact ⟨ret_int HC.out.symm, (Below.refl _ _).alloc (Nat.le_refl _) _⟩
    · have h3 : 60 < P.nz := by omega
      have h2' : decide ((60 : Int) < (P.np : Int)) = false := by simp; omega
      clear h
      go_enter Tryd.func17, Tryd.ntmps17
      go_wp2
      go_ret
      exact ⟨ret_int HC.out.symm, (Below.refl _ _).alloc (Nat.le_refl _) _⟩

set_option maxHeartbeats 4000000 in
theorem specOk_rest (P : Prof) (v : Value) (w : World) (hl : P.Lies w v) (h : P.Counts) :
    Calls Tryd.prog 17 #[v] w fun e w' => e = .returned (.int .i64 P.code) ∧ Below w.heap.size w w' := by
  have HV : Hid (P.Lies w v) := hl
  obtain ⟨ap, cp, az, cz, rfl, hn, hn', hr2, hr3⟩ := hl
  have HC : Hid P.Counts := h
  have HR2 : Hid (Row2 w ap P.np P.L P.B) := hr2
  have HR3 : Hid (Row3 w az P.nz P.F P.T P.S) := hr3
  clear hr2 hr3
  obtain ⟨h1, h2, h3⟩ := h
  have h1' : ((P.np : Int) == 0) = false := by simp; omega
  have h2' : decide ((60 : Int) < (P.np : Int)) = false := by simp; omega
  have h3' : decide ((60 : Int) < (P.nz : Int)) = false := by simp; omega
  go_enter Tryd.func17, Tryd.ntmps17
  go_wp2
  go_loopw [26] (fun i wr => ∃ k : Nat, k ≤ P.np ∧ i = .int .i64 k ∧ Hid (∀ j, j < k → (1 ≤ P.L j ∧ P.L j ≤ 1666666) ∧ (10 ≤ P.B j ∧ P.B j ≤ 1000)) ∧ P.BoxAt wr w.heap.size ap az cp cz ∧ Below w.heap.size w wr) (fun i _ => P.np - (intOf i).toNat)
  case atStart => exact ⟨0, Nat.zero_le _, rfl, fun j hj => by omega, ⟨by go_simp, by go_simp, by go_simp, by go_simp, by go_simp⟩, (Below.refl _ _).alloc (Nat.le_refl _) _⟩
  case round =>
    obtain ⟨k, hk, rfl, HK, hbox, hbel⟩ := hrel
    by_cases hlt : k < P.np
    · rcases HR2.out with h0 | ⟨b, off, rfl, hb, hc⟩
      · omega
      · have c0 : wr.cell? ⟨b, off + k * 2, none⟩ = some (.int .i64 (P.L k)) := by rw [hbel.cell hb]; exact (hc k hlt).1
        have c1 : wr.cell? ⟨b, off + k * 2 + 1, none⟩ = some (.int .i64 (P.B k)) := by rw [hbel.cell hb]; exact (hc k hlt).2
        clear hc
        by_cases q : (1 ≤ P.L k ∧ P.L k ≤ 1666666) ∧ (10 ≤ P.B k ∧ P.B k ≤ 1000)
        · have HQ : Hid ((1 ≤ P.L k ∧ P.L k ≤ 1666666) ∧ (10 ≤ P.B k ∧ P.B k ≤ 1000)) := q
          obtain ⟨⟨q1, q2⟩, q3, q4⟩ := q
          go_wp2_with (first
            | (go_at_call 38; refine (l1in_yes _ _ _ _ (by omega) (by omega)).mono ?_; rintro e w2 ⟨rfl, rfl⟩)
            | (go_at_call 39; refine (l1brakes_yes _ _ (by omega) (by omega)).mono ?_; rintro e w2 ⟨rfl, rfl⟩))
          go_roundw
          case rel =>
            refine ⟨k + 1, by omega, by go_num, fun j hj => ?_, hbox.below ((Below.refl _ _).alloc (Nat.le_refl _) _), hbel.alloc hbel.size _⟩
            by_cases c : j < k
            · exact HK.out j c
            · have : j = k := by omega
              subst this; exact HQ.out
          case measure => simp [intOf]; omega
        · have HE : Hid (P.code = 2) := code_2 HC.out (fun c => q (c k hlt))
          by_cases q1 : 1 ≤ P.L k ∧ P.L k ≤ 1666666
          · have q2 : P.B k < 10 ∨ 1000 < P.B k := by omega
            clear q
            go_wp2_with (first
              | (go_at_call 38; refine (l1in_yes _ _ _ _ (by omega) (by omega)).mono ?_; rintro e w2 ⟨rfl, rfl⟩)
              | (go_at_call 39; refine (l1brakes_no _ _ (by omega)).mono ?_; rintro e w2 ⟨rfl, rfl⟩))
            go_ret
            exact ⟨ret_int HE.out.symm, hbel.alloc hbel.size _⟩
          · clear q
            go_wp2_with (first
              | (go_at_call 38; refine (l1in_no _ _ _ _ (by omega)).mono ?_; rintro e w2 ⟨rfl, rfl⟩))
            go_ret
            exact ⟨ret_int HE.out.symm, hbel.alloc hbel.size _⟩
    · have e : k = P.np := by omega
      subst e
      have HP : Hid P.PiecesOk := HK.out
      have HL : Hid P.Lens := Prof.lens_of HC.out HP.out
      have htot := Prof.total_bounds HL.out
      obtain ⟨ht0, ht1⟩ := htot
      have hbx := hbox.lt
      obtain ⟨x0, x1, x2, x3, x4⟩ := hbox
      have HV1 : Hid (P.Lies wr (.agg #[.slice ap P.np cp, .slice az P.nz cz, .int .i64 P.train, .int .i64 P.fin, .int .i64 P.delay])) := HV.out.below hbel
      go_wp2
      go_loopw [44] (fun i wr => ∃ k : Nat, k ≤ P.nz ∧ i = .int .i64 k ∧ Hid (∀ j, j < k → (0 ≤ P.F j ∧ P.F j ≤ P.total) ∧ (P.F j ≤ P.T j ∧ P.T j ≤ P.total) ∧ (1 ≤ P.S j ∧ P.S j ≤ 10000)) ∧ P.BoxAt wr w.heap.size ap az cp cz ∧ Below w.heap.size w wr) (fun i _ => P.nz - (intOf i).toNat)
      case atStart => exact ⟨0, Nat.zero_le _, rfl, fun j hj => by omega, ⟨x0, x1, x2, x3, x4⟩, hbel⟩
      case round =>
        clear HV1 x0 x1 x2 x3 x4 hbx hbel
        obtain ⟨k, hk, rfl, HK2, hbox, hbel⟩ := hrel
        by_cases hlt : k < P.nz
        · have hbx := hbox.lt
          rcases HR3.out with h0 | ⟨b, off, rfl, hb, hc⟩
          · omega
          · have c0 : wr.cell? ⟨b, off + k * 3, none⟩ = some (.int .i64 (P.F k)) := by rw [hbel.cell hb]; exact (hc k hlt).1
            have c1 : wr.cell? ⟨b, off + k * 3 + 1, none⟩ = some (.int .i64 (P.T k)) := by rw [hbel.cell hb]; exact (hc k hlt).2.1
            have c2 : wr.cell? ⟨b, off + k * 3 + 2, none⟩ = some (.int .i64 (P.S k)) := by rw [hbel.cell hb]; exact (hc k hlt).2.2
            clear hc
            go_wp2
            obtain ⟨zb, hzb⟩ : ∃ zb, wr.heap.size = zb := ⟨_, rfl⟩
            generalize hW : wr.alloc _ = W
            have z0 : W.cell? ⟨zb, 0, none⟩ = some (.int .i64 (P.F k)) := by subst hW hzb; go_simp
            have z1 : W.cell? ⟨zb, 1, none⟩ = some (.int .i64 (P.T k)) := by subst hW hzb; go_simp
            have z2 : W.cell? ⟨zb, 2, none⟩ = some (.int .i64 (P.S k)) := by subst hW hzb; go_simp
            have hbelW : Below w.heap.size w W := by rw [← hW]; exact hbel.alloc hbel.size _
            have hboxW : P.BoxAt W w.heap.size ap (some ⟨b, off, none⟩) cp cz := by rw [← hW]; exact hbox.below ((Below.refl _ _).alloc (Nat.le_refl _) _)
            have hlies : P.Lies W (.agg #[.slice ap P.np cp, .slice (some ⟨b, off, none⟩) P.nz cz, .int .i64 P.train, .int .i64 P.fin, .int .i64 P.delay]) := HV.out.below hbelW
            have cT : ∀ d os, Calls Tryd.prog 40 #[.agg #[.slice ap P.np cp, .slice (some ⟨b, off, none⟩) P.nz cz, .int .i64 P.train, .int .i64 P.fin, .int .i64 P.delay]] (grow (redrawn W d) os) fun e w'' => e = .returned (.int .i64 P.total) ∧ ∃ p : Regrown, w'' = grow (redrawn W p.d) p.os := fun d os => Calls.regrown_of (l2total_any P _ _ (hlies.below (below_regrown W d os)) HL.out)
            have HBX : Hid (P.BoxAt W w.heap.size ap (some ⟨b, off, none⟩) cp cz) := hboxW
            obtain ⟨x0, x1, x2, x3, x4⟩ := hboxW
            have k0 := cell_regrown z0
            have k1 := cell_regrown z1
            have k2 := cell_regrown z2
            have y0 := cell_regrown x0
            have y1 := cell_regrown x1
            have y2 := cell_regrown x2
            have y3 := cell_regrown x3
            have y4 := cell_regrown x4
            rw [hzb]
            clear hW hbel hbox c0 c1 c2 hzb hlies z0 z1 z2 x0 x1 x2 x3 x4
            by_cases q1 : 0 ≤ P.F k ∧ P.F k ≤ P.total
            · by_cases q2 : P.F k ≤ P.T k ∧ P.T k ≤ P.total
              · by_cases q3 : 1 ≤ P.S k ∧ P.S k ≤ 10000
                · have HQ : Hid ((0 ≤ P.F k ∧ P.F k ≤ P.total) ∧ (P.F k ≤ P.T k ∧ P.T k ≤ P.total) ∧ (1 ≤ P.S k ∧ P.S k ≤ 10000)) := ⟨q1, q2, q3⟩
                  refine wp_region_quiet_below (by kernel_rfl) (by kernel_rfl) ?_
                  repeat (go_big_quiet_step (first | exact cT _ _ | exact Calls.regrown_same (l1in_yes _ _ _ _ (by omega) (by omega)) | exact Calls.regrown_same (l1in_no _ _ _ _ (by omega))))
                  refine wpQuiet_nil ?_
                  intro _ hw'
                  obtain ⟨⟨dq, osq⟩, hw''⟩ := hw'
                  subst hw''
                  have hq := below_regrown W dq osq
                  generalize grow (redrawn W dq) osq = W2 at *
                  go_wp2
                  go_roundw
                  case rel =>
                    refine ⟨k + 1, by omega, by go_num, fun j hj => ?_, HBX.out.below hq, hbelW.trans (hq.mono hbelW.size)⟩
                    by_cases c : j < k
                    · exact HK2.out j c
                    · have : j = k := by omega
                      subst this; exact HQ.out
                  case measure => simp [intOf]; omega
                · have HE : Hid (P.code = 3) := code_3 HC.out HP.out (fun c => q3 (c k hlt).2.2)
                  refine wp_region_quiet_below (by kernel_rfl) (by kernel_rfl) ?_
                  repeat (go_big_quiet_step (first | exact cT _ _ | exact Calls.regrown_same (l1in_yes _ _ _ _ (by omega) (by omega)) | exact Calls.regrown_same (l1in_no _ _ _ _ (by omega))))
                  refine wpQuiet_nil ?_
                  intro _ hw'
                  obtain ⟨⟨dq, osq⟩, hw''⟩ := hw'
                  subst hw''
                  have hq := below_regrown W dq osq
                  generalize grow (redrawn W dq) osq = W2 at *
                  go_wp2
                  go_ret
                  exact ⟨ret_int HE.out.symm, hbelW.trans (hq.mono hbelW.size)⟩
              · have HE : Hid (P.code = 3) := code_3 HC.out HP.out (fun c => q2 (c k hlt).2.1)
                refine wp_region_quiet_below (by kernel_rfl) (by kernel_rfl) ?_
                repeat (go_big_quiet_step (first | exact cT _ _ | exact Calls.regrown_same (l1in_yes _ _ _ _ (by omega) (by omega)) | exact Calls.regrown_same (l1in_no _ _ _ _ (by omega))))
                refine wpQuiet_nil ?_
                intro _ hw'
                obtain ⟨⟨dq, osq⟩, hw''⟩ := hw'
                subst hw''
                have hq := below_regrown W dq osq
                generalize grow (redrawn W dq) osq = W2 at *
                go_wp2
                go_ret
                exact ⟨ret_int HE.out.symm, hbelW.trans (hq.mono hbelW.size)⟩
            · have HE : Hid (P.code = 3) := code_3 HC.out HP.out (fun c => q1 (c k hlt).1)
              refine wp_region_quiet_below (by kernel_rfl) (by kernel_rfl) ?_
              repeat (go_big_quiet_step (first | exact cT _ _ | exact Calls.regrown_same (l1in_yes _ _ _ _ (by omega) (by omega)) | exact Calls.regrown_same (l1in_no _ _ _ _ (by omega))))
              refine wpQuiet_nil ?_
              intro _ hw'
              obtain ⟨⟨dq, osq⟩, hw''⟩ := hw'
              subst hw''
              have hq := below_regrown W dq osq
              generalize grow (redrawn W dq) osq = W2 at *
              go_wp2
              go_ret
              exact ⟨ret_int HE.out.symm, hbelW.trans (hq.mono hbelW.size)⟩
        · have e : k = P.nz := by omega
          subst e
          have HZ : Hid P.ZonesOk := HK2.out
          have hlies : P.Lies wr (.agg #[.slice ap P.np cp, .slice az P.nz cz, .int .i64 P.train, .int .i64 P.fin, .int .i64 P.delay]) := HV.out.below hbel
          have cT : ∀ d os, Calls Tryd.prog 40 #[.agg #[.slice ap P.np cp, .slice az P.nz cz, .int .i64 P.train, .int .i64 P.fin, .int .i64 P.delay]] (grow (redrawn wr d) os) fun e w'' => e = .returned (.int .i64 P.total) ∧ ∃ p : Regrown, w'' = grow (redrawn wr p.d) p.os := fun d os => Calls.regrown_of (l2total_any P _ _ (hlies.below (below_regrown wr d os)) HL.out)
          have HBX : Hid (P.BoxAt wr w.heap.size ap az cp cz) := hbox
          obtain ⟨x0, x1, x2, x3, x4⟩ := hbox
          have y0 := cell_regrown x0
          have y1 := cell_regrown x1
          have y2 := cell_regrown x2
          have y3 := cell_regrown x3
          have y4 := cell_regrown x4
          by_cases t : 0 ≤ P.train ∧ P.train ≤ 100000000
          · go_wp2_with (first | (go_at_call 38; refine (l1in_yes _ _ _ _ (by omega) (by omega)).mono ?_; rintro e w2 ⟨rfl, rfl⟩))
            by_cases f : 0 ≤ P.fin ∧ P.fin ≤ P.total
            · refine wp_region_quiet_below (by kernel_rfl) (by kernel_rfl) ?_
              repeat (go_big_quiet_step (first | exact cT _ _ | exact Calls.regrown_same (l1in_yes _ _ _ _ (by omega) (by omega)) | exact Calls.regrown_same (l1in_no _ _ _ _ (by omega))))
              refine wpQuiet_nil ?_
              intro _ hw'
              obtain ⟨⟨dq, osq⟩, hw''⟩ := hw'
              subst hw''
              have hq := below_regrown w2 dq osq
              have hbel2 := hbel.trans (hq.mono hbel.size)
              have HB2 := HBX.out.below hq
              generalize grow (redrawn w2 dq) osq = W2 at *
              obtain ⟨x0, x1, x2, x3, x4⟩ := HB2
              by_cases d : 0 ≤ P.delay ∧ P.delay ≤ 20
              · have HE : Hid (P.code = 0) := code_0 HC.out HP.out HZ.out t f d
                go_wp2_with (first | (go_at_call 38; refine (l1in_yes _ _ _ _ (by omega) (by omega)).mono ?_; rintro e w3 ⟨rfl, rfl⟩))
                go_ret
                exact ⟨ret_int HE.out.symm, hbel2⟩
              · have HE : Hid (P.code = 6) := code_6 HC.out HP.out HZ.out t f d
                go_wp2_with (first | (go_at_call 38; refine (l1in_no _ _ _ _ (by omega)).mono ?_; rintro e w3 ⟨rfl, rfl⟩))
                go_ret
                exact ⟨ret_int HE.out.symm, hbel2⟩
            · have HE : Hid (P.code = 5) := code_5 HC.out HP.out HZ.out t f
              refine wp_region_quiet_below (by kernel_rfl) (by kernel_rfl) ?_
              repeat (go_big_quiet_step (first | exact cT _ _ | exact Calls.regrown_same (l1in_yes _ _ _ _ (by omega) (by omega)) | exact Calls.regrown_same (l1in_no _ _ _ _ (by omega))))
              refine wpQuiet_nil ?_
              intro _ hw'
              obtain ⟨⟨dq, osq⟩, hw''⟩ := hw'
              subst hw''
              have hq := below_regrown w2 dq osq
              have hbel2 := hbel.trans (hq.mono hbel.size)
              have HB2 := HBX.out.below hq
              generalize grow (redrawn w2 dq) osq = W2 at *
              go_wp2
              go_ret
              exact ⟨ret_int HE.out.symm, hbel2⟩
          · have HE : Hid (P.code = 4) := code_4 HC.out HP.out HZ.out t
            go_wp2_with (first | (go_at_call 38; refine (l1in_no _ _ _ _ (by omega)).mono ?_; rintro e w2 ⟨rfl, rfl⟩))
            go_ret
            exact ⟨ret_int HE.out.symm, hbel⟩

theorem specOk_any (P : Prof) (v : Value) (w : World) (hl : P.Lies w v) :
    Calls Tryd.prog 17 #[v] w fun e w' => e = .returned (.int .i64 P.code) ∧ Below w.heap.size w w' := by
  by_cases h : P.Counts
  · exact specOk_rest P v w hl h
  · exact specOk_counts P v w hl h

end Go.Proofs.YteodefmpkljedaaDoor
