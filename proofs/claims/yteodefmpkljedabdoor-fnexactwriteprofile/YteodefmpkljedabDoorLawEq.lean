/-
  Comparing a profile with its copy: the same.
-/
import Derived.Test.YteodefmpkljedabDoorLawHelp
namespace Go.Proofs.YteodefmpkljedabDoor
open Go.RowKit Go.Sort
set_option linter.unusedVariables false

theorem eqPiece_same (x0 x1 : Int) (w : World) :
    Calls Tryd.prog 35 #[.agg #[.int .i64 x0, .int .i64 x1], .agg #[.int .i64 x0, .int .i64 x1]] w fun e w' => e = .returned (.bool true) ∧ Below w.heap.size w w' := by
  go_enter Tryd.func35, Tryd.ntmps35
  go_wp2
  go_ret
  exact ⟨rfl, ((Below.refl _ _).alloc (Nat.le_refl _) _).alloc (by simp) _⟩

set_option maxHeartbeats 1000000 in
theorem eqPieceS_same (a a' : Option Addr) (n c c' : Nat) (L B : Nat → Int) (w : World) (hr : Row2 w a n L B) (hr' : Row2 w a' n L B) (hn : n ≤ 9223372036854775807) :
    Calls Tryd.prog 17 #[.slice a n c, .slice a' n c'] w fun e w' => e = .returned (.bool true) ∧ Below w.heap.size w w' := by
  have HR : Hid (Row2 w a n L B) := hr
  have HR' : Hid (Row2 w a' n L B) := hr'
  clear hr hr'
  go_enter Tryd.func17, Tryd.ntmps17
  go_wp2
  go_loopw [5] (fun i wr => ∃ k : Nat, k ≤ n ∧ i = .int .i64 k ∧ Below w.heap.size w wr) (fun i _ => n - (intOf i).toNat)
  case atStart => exact ⟨0, Nat.zero_le _, rfl, Below.refl _ _⟩
  case round =>
    obtain ⟨k, hk, rfl, hbel⟩ := hrel
    by_cases hlt : k < n
    · rcases HR.out with h0 | ⟨b, off, rfl, hb, hc⟩
      · omega
      rcases HR'.out with h0 | ⟨d, off', rfl, gb, hc'⟩
      · omega
      · obtain ⟨h0, h1⟩ := hc k hlt
        obtain ⟨g0, g1⟩ := hc' k hlt
        have c0 : wr.cell? ⟨b, off + k * 2, none⟩ = some (.int .i64 (L k)) := by rw [hbel.cell hb]; exact h0
        have c1 : wr.cell? ⟨b, off + k * 2 + 1, none⟩ = some (.int .i64 (B k)) := by rw [hbel.cell hb]; exact h1
        have d0 : wr.cell? ⟨d, off' + k * 2, none⟩ = some (.int .i64 (L k)) := by rw [hbel.cell gb]; exact g0
        have d1 : wr.cell? ⟨d, off' + k * 2 + 1, none⟩ = some (.int .i64 (B k)) := by rw [hbel.cell gb]; exact g1
        clear hc hc' h0 g0 h1 g1
        have u0 := cell_regrown c0
        have v0 := cell_regrown d0
        have u1 := cell_regrown c1
        have v1 := cell_regrown d1
        have i0 : (0 : Int) ≤ (k : Int) := by omega
        have i1 : (k : Int) < (n : Int) := by omega
        go_wp2
        have cE : ∀ d os, Calls Tryd.prog 35 #[.agg #[.int .i64 (L k), .int .i64 (B k)], .agg #[.int .i64 (L k), .int .i64 (B k)]] (grow (redrawn wr d) os) fun e w'' => e = .returned (.bool true) ∧ ∃ p : Regrown, w'' = grow (redrawn wr p.d) p.os := fun d os => Calls.regrown_of (eqPiece_same _ _ _)
        refine wp_region_quiet_below (by kernel_rfl) (by kernel_rfl) ?_
        repeat (go_big_quiet_step (exact cE _ _))
        refine wpQuiet_nil ?_
        intro _ hw'
        obtain ⟨⟨dq, osq⟩, hw''⟩ := hw'
        subst hw''
        have hq := below_regrown wr dq osq
        generalize grow (redrawn wr dq) osq = W2 at *
        go_wp2
        go_roundw
        case rel => exact ⟨k + 1, by omega, by go_num, hbel.trans (hq.mono hbel.size)⟩
        case measure => simp [intOf]; omega
    · go_wp2
      go_ret
      exact ⟨rfl, hbel⟩

theorem eqZone_same (x0 x1 x2 : Int) (w : World) :
    Calls Tryd.prog 36 #[.agg #[.int .i64 x0, .int .i64 x1, .int .i64 x2], .agg #[.int .i64 x0, .int .i64 x1, .int .i64 x2]] w fun e w' => e = .returned (.bool true) ∧ Below w.heap.size w w' := by
  go_enter Tryd.func36, Tryd.ntmps36
  go_wp2
  go_ret
  exact ⟨rfl, ((Below.refl _ _).alloc (Nat.le_refl _) _).alloc (by simp) _⟩

set_option maxHeartbeats 1000000 in
theorem eqZoneS_same (a a' : Option Addr) (n c c' : Nat) (F T S : Nat → Int) (w : World) (hr : Row3 w a n F T S) (hr' : Row3 w a' n F T S) (hn : n ≤ 9223372036854775807) :
    Calls Tryd.prog 18 #[.slice a n c, .slice a' n c'] w fun e w' => e = .returned (.bool true) ∧ Below w.heap.size w w' := by
  have HR : Hid (Row3 w a n F T S) := hr
  have HR' : Hid (Row3 w a' n F T S) := hr'
  clear hr hr'
  go_enter Tryd.func18, Tryd.ntmps18
  go_wp2
  go_loopw [5] (fun i wr => ∃ k : Nat, k ≤ n ∧ i = .int .i64 k ∧ Below w.heap.size w wr) (fun i _ => n - (intOf i).toNat)
  case atStart => exact ⟨0, Nat.zero_le _, rfl, Below.refl _ _⟩
  case round =>
    obtain ⟨k, hk, rfl, hbel⟩ := hrel
    by_cases hlt : k < n
    · rcases HR.out with h0 | ⟨b, off, rfl, hb, hc⟩
      · omega
      rcases HR'.out with h0 | ⟨d, off', rfl, gb, hc'⟩
      · omega
      · obtain ⟨h0, h1, h2⟩ := hc k hlt
        obtain ⟨g0, g1, g2⟩ := hc' k hlt
        have c0 : wr.cell? ⟨b, off + k * 3, none⟩ = some (.int .i64 (F k)) := by rw [hbel.cell hb]; exact h0
        have c1 : wr.cell? ⟨b, off + k * 3 + 1, none⟩ = some (.int .i64 (T k)) := by rw [hbel.cell hb]; exact h1
        have c2 : wr.cell? ⟨b, off + k * 3 + 2, none⟩ = some (.int .i64 (S k)) := by rw [hbel.cell hb]; exact h2
        have d0 : wr.cell? ⟨d, off' + k * 3, none⟩ = some (.int .i64 (F k)) := by rw [hbel.cell gb]; exact g0
        have d1 : wr.cell? ⟨d, off' + k * 3 + 1, none⟩ = some (.int .i64 (T k)) := by rw [hbel.cell gb]; exact g1
        have d2 : wr.cell? ⟨d, off' + k * 3 + 2, none⟩ = some (.int .i64 (S k)) := by rw [hbel.cell gb]; exact g2
        clear hc hc' h0 g0 h1 g1 h2 g2
        have u0 := cell_regrown c0
        have v0 := cell_regrown d0
        have u1 := cell_regrown c1
        have v1 := cell_regrown d1
        have u2 := cell_regrown c2
        have v2 := cell_regrown d2
        have i0 : (0 : Int) ≤ (k : Int) := by omega
        have i1 : (k : Int) < (n : Int) := by omega
        go_wp2
        have cE : ∀ d os, Calls Tryd.prog 36 #[.agg #[.int .i64 (F k), .int .i64 (T k), .int .i64 (S k)], .agg #[.int .i64 (F k), .int .i64 (T k), .int .i64 (S k)]] (grow (redrawn wr d) os) fun e w'' => e = .returned (.bool true) ∧ ∃ p : Regrown, w'' = grow (redrawn wr p.d) p.os := fun d os => Calls.regrown_of (eqZone_same _ _ _ _)
        refine wp_region_quiet_below (by kernel_rfl) (by kernel_rfl) ?_
        repeat (go_big_quiet_step (exact cE _ _))
        refine wpQuiet_nil ?_
        intro _ hw'
        obtain ⟨⟨dq, osq⟩, hw''⟩ := hw'
        subst hw''
        have hq := below_regrown wr dq osq
        generalize grow (redrawn wr dq) osq = W2 at *
        go_wp2
        go_roundw
        case rel => exact ⟨k + 1, by omega, by go_num, hbel.trans (hq.mono hbel.size)⟩
        case measure => simp [intOf]; omega
    · go_wp2
      go_ret
      exact ⟨rfl, hbel⟩

set_option maxHeartbeats 1000000 in
theorem eqProfile_same (P : Prof) (v v' : Value) (w : World) (hl : P.Lies w v) (hl' : P.Lies w v') :
    Calls Tryd.prog 8 #[v, v'] w fun e w' => e = .returned (.bool true) ∧ Below w.heap.size w w' := by
  obtain ⟨ap, cp, az, cz, rfl, hn, hn', hr2, hr3⟩ := hl
  obtain ⟨bp, dp, bz, dz, rfl, _, _, gr2, gr3⟩ := hl'
  have HR2 : Hid (Row2 w ap P.np P.L P.B) := hr2
  have HR3 : Hid (Row3 w az P.nz P.F P.T P.S) := hr3
  have GR2 : Hid (Row2 w bp P.np P.L P.B) := gr2
  have GR3 : Hid (Row3 w bz P.nz P.F P.T P.S) := gr3
  clear hr2 hr3 gr2 gr3
  go_enter Tryd.func8, Tryd.ntmps8
  go_wp2_with fail
  generalize hW : (w.alloc _).alloc _ = W
  have bW : Below w.heap.size w W := by rw [← hW]; exact ((Below.refl _ _).alloc (Nat.le_refl _) _).alloc (by simp) _
  have sW : W.heap.size = w.heap.size + 2 := by rw [← hW]; simp
  have hA : P.BoxAt W w.heap.size ap az cp cz := by subst hW; exact ⟨by go_simp, by go_simp, by go_simp, by go_simp, by go_simp⟩
  have hB : P.BoxAt W (w.heap.size + 1) bp bz dp dz := by subst hW; exact ⟨by go_simp, by go_simp, by go_simp, by go_simp, by go_simp⟩
  clear hW
  refine (eqPieceS_same _ _ _ _ _ P.L P.B _ (HR2.out.below bW) (GR2.out.below bW) hn.1).mono ?_
  rintro e w1 ⟨rfl, hb1⟩
  replace hA := hA.below hb1
  replace hB := hB.below hb1
  have b1 : Below w.heap.size w w1 := bW.trans (hb1.mono bW.size)
  have HA : Hid (P.BoxAt w1 w.heap.size ap az cp cz) := hA
  have HB : Hid (P.BoxAt w1 (w.heap.size + 1) bp bz dp dz) := hB
  obtain ⟨_, x1, _, _, _⟩ := hA
  obtain ⟨_, y1, _, _, _⟩ := hB
  clear hb1
  go_wp2_with fail
  refine (eqZoneS_same _ _ _ _ _ P.F P.T P.S _ (HR3.out.below b1) (GR3.out.below b1) hn').mono ?_
  rintro e w2 ⟨rfl, hb2⟩
  have b2 : Below w.heap.size w w2 := b1.trans (hb2.mono b1.size)
  obtain ⟨_, _, x2, x3, x4⟩ := HA.out.below hb2
  obtain ⟨_, _, y2, y3, y4⟩ := HB.out.below hb2
  clear hb2 x1 y1
  go_wp2
  go_ret
  exact ⟨rfl, b2⟩

end Go.Proofs.YteodefmpkljedabDoor
