/-
  The laws' marks, on: found again; whole profiles and answers; comparisons of answers.
-/
import Derived.Test.YteodefmpkljedabLawMark
namespace Go.Proofs.Yteodefmpkljedab
open Go.RowKit Go.Sort
set_option linter.unusedVariables false
set_option linter.unusedSimpArgs false

set_option maxHeartbeats 2000000 in
theorem heldPointS_any (a : Option Addr) (n cap g t m : Nat) (q : Int) (w : World) (hr : Marked w a n 2 g t m q) (hn : n ≤ 100000000) (hq : 0 ≤ q) (hq' : q ≤ 1000000000) :
    Calls Try.prog 36 #[.slice a n cap, .int .i64 q] w fun e w' => e = .returned (.int .i64 (q + n * 2)) ∧ w' = w := by
  have HR : Hid (Marked w a n 2 g t m q) := hr
  clear hr
  go_enter Try.func36, Try.ntmps36
  go_wp2
  go_loopw [1, 5] (fun sk i wr => ∃ k : Nat, k ≤ n ∧ i = .int .i64 k ∧ sk = .int .i64 (q + k * 2) ∧ wr = w) (fun _ i _ => n - (intOf i).toNat)
  case atStart => exact ⟨0, Nat.zero_le _, rfl, by simp, rfl⟩
  case round =>
    obtain ⟨k, hk, rfl, rfl, hwr⟩ := hrel
    subst wr
    by_cases hlt : k < n
    · rcases HR.out with h0 | ⟨rfl, hm, f, hrow, hf⟩
      · omega
      · have hgl := hrow.lt
        have d0 : w.cell? ⟨g, k * 2, none⟩ = some (.int .i64 (q + k * 2)) := by rw [hrow.cell (i := k * 2) (by omega), hf _ (by omega)] <;> exact congrArg (fun y => some (Value.int .i64 y)) (by omega)
        have d1 : w.cell? ⟨g, k * 2 + 1, none⟩ = some (.int .i64 (q + k * 2 + 1)) := by rw [hrow.cell (i := k * 2 + 1) (by omega), hf _ (by omega)] <;> exact congrArg (fun y => some (Value.int .i64 y)) (by omega)
        clear hrow hf
        go_wp2
        go_roundw
        case rel => exact ⟨k + 1, by omega, by go_num, by go_num, by first | rfl | trivial⟩
        case measure => simp [intOf]; omega
    · have e : k = n := by omega
      subst e
      go_wp2
      go_ret
      exact ⟨ret_int rfl, rfl⟩

set_option maxHeartbeats 2000000 in
theorem heldIntS_any (a : Option Addr) (n cap g t m : Nat) (q : Int) (w : World) (hr : Marked w a n 1 g t m q) (hn : n ≤ 100000000) (hq : 0 ≤ q) (hq' : q ≤ 1000000000) :
    Calls Try.prog 92 #[.slice a n cap, .int .i64 q] w fun e w' => e = .returned (.int .i64 (q + n * 1)) ∧ w' = w := by
  have HR : Hid (Marked w a n 1 g t m q) := hr
  clear hr
  go_enter Try.func92, Try.ntmps92
  go_wp2
  go_loopw [1, 5] (fun sk i wr => ∃ k : Nat, k ≤ n ∧ i = .int .i64 k ∧ sk = .int .i64 (q + k * 1) ∧ wr = w) (fun _ i _ => n - (intOf i).toNat)
  case atStart => exact ⟨0, Nat.zero_le _, rfl, by simp, rfl⟩
  case round =>
    obtain ⟨k, hk, rfl, rfl, hwr⟩ := hrel
    subst wr
    by_cases hlt : k < n
    · rcases HR.out with h0 | ⟨rfl, hm, f, hrow, hf⟩
      · omega
      · have hgl := hrow.lt
        have d0 : w.cell? ⟨g, k, none⟩ = some (.int .i64 (q + k)) := by rw [hrow.cell (i := k) (by omega), hf _ (by omega)] <;> exact congrArg (fun y => some (Value.int .i64 y)) (by omega)
        clear hrow hf
        go_wp2
        go_roundw
        case rel => exact ⟨k + 1, by omega, by go_num, by go_num, by first | rfl | trivial⟩
        case measure => simp [intOf]; omega
    · have e : k = n := by omega
      subst e
      go_wp2
      go_ret
      exact ⟨ret_int rfl, rfl⟩

set_option maxHeartbeats 2000000 in
theorem markProfile_any (P : Prof) (v : Value) (base : Nat) (q : Int) (w : World) (hc : P.Copied base w v) (hq : 0 ≤ q) (hq' : q ≤ 1000) :
    Calls Try.prog 34 #[v, .int .i64 q] w fun e w' => ∃ (g h : Nat) (m : Int) (w1 : World), e = .returned (.int .i64 m) ∧ (0 ≤ m ∧ m ≤ 100000000) ∧ v = .agg #[.slice (some ⟨g, 0, none⟩) P.np P.np, .slice (some ⟨h, 0, none⟩) P.nz P.nz, .int .i64 P.train, .int .i64 P.fin, .int .i64 P.delay] ∧ base ≤ g ∧ base ≤ h ∧ g < w.heap.size ∧ h < w.heap.size ∧ w.grownBy w1 (some g) ∧ w1.grownBy w' (some h) := by
  obtain ⟨g, h, rfl, hb, hgh, hp, hz, hrow1, hrow2⟩ := hc
  have gl := hrow1.lt
  have hl := hrow2.lt
  have M1 : Hid (MRow w (some ⟨g, 0, none⟩) P.np 2 g 74 (P.np * 2)) := Or.inr ⟨rfl, Nat.le_refl _, _, hrow1⟩
  have M2 : Hid (MRow w (some ⟨h, 0, none⟩) P.nz 3 h 76 (P.nz * 3)) := Or.inr ⟨rfl, Nat.le_refl _, _, hrow2⟩
  clear hrow1 hrow2
  go_enter Try.func34, Try.ntmps34
  go_wp2_with fail
  have g0 : w.grownBy (w.alloc (.cells #[.slice (some ⟨g, 0, none⟩) P.np P.np, .slice (some ⟨h, 0, none⟩) P.nz P.nz, .int .i64 P.train, .int .i64 P.fin, .int .i64 P.delay] 33)) none := World.grownBy_alloc _ _ _
  have x1 : (w.alloc (.cells #[.slice (some ⟨g, 0, none⟩) P.np P.np, .slice (some ⟨h, 0, none⟩) P.nz P.nz, .int .i64 P.train, .int .i64 P.fin, .int .i64 P.delay] 33)).cell? ⟨w.heap.size, 1, none⟩ = some (.slice (some ⟨h, 0, none⟩) P.nz P.nz) := by go_simp
  refine (markPieceS_any _ _ _ g 74 (P.np * 2) q _ (M1.out.grown g0 (by simp)) (by omega) hq (by omega)).mono ?_
  rintro e w1 ⟨rfl, _, hg1⟩
  have y1 : w1.cell? ⟨w.heap.size, 1, none⟩ = some (.slice (some ⟨h, 0, none⟩) P.nz P.nz) := hg1.cell x1 (fun e => by have h2 : w.heap.size = g := Option.some.inj e; omega)
  clear x1
  go_wp2_with fail
  refine (markZoneS_any _ _ _ h 76 (P.nz * 3) _ _ ((M2.out.grown g0 (by simp)).grown hg1 (fun e => by have h2 := Option.some.inj e; omega)) (by omega) (by omega) (by omega)).mono ?_
  rintro e w2 ⟨rfl, _, hg2⟩
  have hg3 : w.grownBy w1 (some g) := ⟨hg1.os.trans g0.os, hg1.tape.trans g0.tape, hg1.output.trans g0.output, Nat.le_trans g0.size hg1.size, fun i hi hne => (hg1.block i (Nat.lt_of_lt_of_le hi g0.size) hne).trans (g0.block i hi (by simp))⟩
  go_wp2
  go_ret
  exact ⟨g, h, _, w1, rfl, ⟨by omega, by omega⟩, rfl, hb, by omega, gl, hl, hg3, hg2⟩

theorem eqPoint_same (x0 x1 : Int) (w : World) :
    Calls Try.prog 87 #[.agg #[.int .i64 x0, .int .i64 x1], .agg #[.int .i64 x0, .int .i64 x1]] w fun e w' => e = .returned (.bool true) ∧ Below w.heap.size w w' := by
  go_enter Try.func87, Try.ntmps87
  go_wp2
  go_ret
  exact ⟨rfl, ((Below.refl _ _).alloc (Nat.le_refl _) _).alloc (by simp) _⟩

set_option maxHeartbeats 1000000 in
theorem eqPointS_same (a a' : Option Addr) (n c c' : Nat) (L B : Nat → Int) (w : World) (hr : Row2 w a n L B) (hr' : Row2 w a' n L B) (hn : n ≤ 9223372036854775807) :
    Calls Try.prog 33 #[.slice a n c, .slice a' n c'] w fun e w' => e = .returned (.bool true) ∧ Below w.heap.size w w' := by
  have HR : Hid (Row2 w a n L B) := hr
  have HR' : Hid (Row2 w a' n L B) := hr'
  clear hr hr'
  go_enter Try.func33, Try.ntmps33
  go_wp2
  go_loopw [5] (fun i wr => ∃ k : Nat, k ≤ n ∧ i = .int .i64 k ∧ Below w.heap.size w wr) (fun i _ => n - (intOf i).toNat)
  case atStart => exact ⟨0, Nat.zero_le _, rfl, Below.refl _ _⟩
  case round =>
    obtain ⟨k, hk, rfl, hbel⟩ := hrel
    by_cases hlt : k < n
    · rcases HR.out with h0 | ⟨b, off, rfl, hb, hc⟩
      · omega
      rcases HR'.out with h0 | ⟨d, off', rfl, gb, hc'⟩
      · omega
      · obtain ⟨h0, h1⟩ := hc k hlt
        obtain ⟨g0, g1⟩ := hc' k hlt
        have c0 : wr.cell? ⟨b, off + k * 2, none⟩ = some (.int .i64 (L k)) := by rw [hbel.cell hb]; exact h0
        have c1 : wr.cell? ⟨b, off + k * 2 + 1, none⟩ = some (.int .i64 (B k)) := by rw [hbel.cell hb]; exact h1
        have d0 : wr.cell? ⟨d, off' + k * 2, none⟩ = some (.int .i64 (L k)) := by rw [hbel.cell gb]; exact g0
        have d1 : wr.cell? ⟨d, off' + k * 2 + 1, none⟩ = some (.int .i64 (B k)) := by rw [hbel.cell gb]; exact g1
        clear hc hc' h0 g0 h1 g1
        have u0 := cell_regrown c0
        have v0 := cell_regrown d0
        have u1 := cell_regrown c1
        have v1 := cell_regrown d1
        have i0 : (0 : Int) ≤ (k : Int) := by omega
        have i1 : (k : Int) < (n : Int) := by omega
        go_wp2
        have cE : ∀ d os, Calls Try.prog 87 #[.agg #[.int .i64 (L k), .int .i64 (B k)], .agg #[.int .i64 (L k), .int .i64 (B k)]] (grow (redrawn wr d) os) fun e w'' => e = .returned (.bool true) ∧ ∃ p : Regrown, w'' = grow (redrawn wr p.d) p.os := fun d os => Calls.regrown_of (eqPoint_same _ _ _)
        refine wp_region_quiet_below (by kernel_rfl) (by kernel_rfl) ?_
        repeat (go_big_quiet_step (exact cE _ _))
        refine wpQuiet_nil ?_
        intro _ hw'
        obtain ⟨⟨dq, osq⟩, hw''⟩ := hw'
        subst hw''
        have hq := below_regrown wr dq osq
        generalize grow (redrawn wr dq) osq = W2 at *
        go_wp2
        go_roundw
        case rel => exact ⟨k + 1, by omega, by go_num, hbel.trans (hq.mono hbel.size)⟩
        case measure => simp [intOf]; omega
    · go_wp2
      go_ret
      exact ⟨rfl, hbel⟩

end Go.Proofs.Yteodefmpkljedab
