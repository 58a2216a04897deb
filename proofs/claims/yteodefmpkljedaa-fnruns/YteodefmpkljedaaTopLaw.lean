/-
  The laws' own functions that FnTop calls: two rows held against each other, two profiles, the least limit of a move.
-/
import Derived.Test.YteodefmpkljedaaWatch
import Derived.Test.YteodefmpkljedaaOwnRow
import Derived.Test.YteodefmpkljedaaSpecProf
import Derived.Deep.QuietTactic
import Derived.BigQuiet
import Derived.Laws.StructEq
namespace Go.Proofs.Yteodefmpkljedaa
open Go.RowKit
attribute [local go_sem ↓] Go.wp_at_zero Go.wp_at_succ
set_option linter.unusedVariables false

set_option maxHeartbeats 1000000 in
theorem wLimit_any (P : Prof) (v : Value) (x y : Int) (w : World) (hl : P.Lies w v) (hok : P.Ok) :
    Calls Try.prog 19 #[v, .int .i64 x, .int .i64 y] w fun e w' => e = .returned (.int .i64 (P.over x y)) ∧ Below w.heap.size w w' := by
  obtain ⟨ap, cp, az, cz, rfl, hn, hn', hr2, hr3⟩ := hl
  have hsz := hok.counts.2.2
  have ht := hok.train
  obtain ⟨ht0, ht1⟩ := ht
  have htot := (Prof.total_bounds hok.lens).2
  have HZ : Hid (P.ZonesOk) := hok.zones
  have HR : Hid (Row3 w az P.nz P.F P.T P.S) := hr3
  clear hok hr2 hr3
  go_enter Try.func19, Try.ntmps19
  go_wp2
  go_loopw [7, 13] (fun s i wr => ∃ k : Nat, k ≤ P.nz ∧ i = .int .i64 k ∧ s = .int .i64 (P.overTo x y k) ∧ wr.cell? ⟨w.heap.size, 2, none⟩ = some (.int .i64 P.train) ∧ Below w.heap.size w wr) (fun _ i _ => P.nz - (intOf i).toNat)
  case atStart => exact ⟨0, Nat.zero_le _, rfl, rfl, by go_simp, (Below.refl _ _).alloc (Nat.le_refl _) _⟩
  case round =>
    obtain ⟨k, hk, rfl, rfl, hbox, hbel⟩ := hrel
    have hbx : w.heap.size < wr.heap.size := World.block_lt_of_cell? _ _ hbox
    by_cases hlt : k < P.nz
    · rcases HR.out with h0 | ⟨b, off, rfl, hb, hc⟩
      · omega
      · have c0 : wr.cell? ⟨b, off + k * 3, none⟩ = some (.int .i64 (P.F k)) := by rw [hbel.cell hb]; exact (hc k hlt).1
        have c1 : wr.cell? ⟨b, off + k * 3 + 1, none⟩ = some (.int .i64 (P.T k)) := by rw [hbel.cell hb]; exact (hc k hlt).2.1
        have c2 : wr.cell? ⟨b, off + k * 3 + 2, none⟩ = some (.int .i64 (P.S k)) := by rw [hbel.cell hb]; exact (hc k hlt).2.2
        obtain ⟨⟨f0, f1⟩, ⟨t0, t1⟩, s0, s1⟩ := HZ.out k hlt
        clear hc
        by_cases q1 : P.F k ≤ y
        · by_cases q2 : x ≤ P.T k + P.train
          · by_cases q3 : P.S k < P.overTo x y k
            · have HE : Hid (P.overTo x y (k + 1) = P.S k) := by show P.overTo x y (k + 1) = _; rw [Prof.overTo, if_pos ⟨q1, q2, q3⟩]
              go_wp2
              go_roundw
              case rel => exact ⟨k + 1, by omega, by go_num, by rw [HE.out], by rw [World.cell?_alloc_lt _ _ _ hbx]; exact hbox, hbel.alloc hbel.size _⟩
              case measure => simp [intOf]; omega
            · have HE : Hid (P.overTo x y (k + 1) = P.overTo x y k) := by show P.overTo x y (k + 1) = _; rw [Prof.overTo, if_neg (fun c => q3 c.2.2)]
              have q3' : decide (P.S k < P.overTo x y k) = false := by simpa using q3
              go_wp2
              go_roundw
              case rel => exact ⟨k + 1, by omega, by go_num, by rw [HE.out], by rw [World.cell?_alloc_lt _ _ _ hbx]; exact hbox, hbel.alloc hbel.size _⟩
              case measure => simp [intOf]; omega
          · have HE : Hid (P.overTo x y (k + 1) = P.overTo x y k) := by show P.overTo x y (k + 1) = _; rw [Prof.overTo, if_neg (fun c => q2 c.2.1)]
            have q2' : decide (x ≤ P.T k + P.train) = false := by simpa using q2
            go_wp2
            go_roundw
            case rel => exact ⟨k + 1, by omega, by go_num, by rw [HE.out], by rw [World.cell?_alloc_lt _ _ _ hbx]; exact hbox, hbel.alloc hbel.size _⟩
            case measure => simp [intOf]; omega
        · have HE : Hid (P.overTo x y (k + 1) = P.overTo x y k) := by show P.overTo x y (k + 1) = _; rw [Prof.overTo, if_neg (fun c => q1 c.1)]
          have q1' : decide (P.F k ≤ y) = false := by simpa using q1
          go_wp2
          go_roundw
          case rel => exact ⟨k + 1, by omega, by go_num, by rw [HE.out], by rw [World.cell?_alloc_lt _ _ _ hbx]; exact hbox, hbel.alloc hbel.size _⟩
          case measure => simp [intOf]; omega
    · have e : k = P.nz := by omega
      subst e
      go_wp2
      go_ret
      exact ⟨ret_int rfl, hbel⟩

set_option maxHeartbeats 2000000 in
theorem wInts_same (a a' : Option Addr) (n c c' : Nat) (z : Nat → Int) (w : World) (hr : Row1 w a n z) (hr' : Row1 w a' n z) (hn : n ≤ 9223372036854775807) :
    Calls Try.prog 17 #[.slice a n c, .slice a' n c'] w fun e w' => e = .returned (.bool true) ∧ Below w.heap.size w w' := by
  have HR : Hid (Row1 w a n z) := hr
  have HR' : Hid (Row1 w a' n z) := hr'
  clear hr hr'
  go_enter Try.func17, Try.ntmps17
  go_wp2
  go_loopw [13] (fun i wr => ∃ k : Nat, k ≤ n ∧ i = .int .i64 k ∧ Below w.heap.size w wr) (fun i _ => n - (intOf i).toNat)
  case atStart => exact ⟨0, Nat.zero_le _, rfl, Below.refl _ _⟩
  case round =>
    obtain ⟨k, hk, rfl, hbel⟩ := hrel
    by_cases hlt : k < n
    · have hkI : (k : Int) < (n : Int) := by omega
      rcases HR.out with h0 | ⟨b, off, rfl, hb, hc⟩
      · omega
      rcases HR'.out with h0 | ⟨b', off', rfl, hb', hc'⟩
      · omega
      have c0 : wr.cell? ⟨b, off + k, none⟩ = some (.int .i64 (z k)) := by rw [hbel.cell hb]; exact hc k hlt
      have c1 : wr.cell? ⟨b', off' + k, none⟩ = some (.int .i64 (z k)) := by rw [hbel.cell hb']; exact hc' k hlt
      clear hc hc'
      go_wp2_with fail
      go_quiet (fail)
      go_wp2
      go_roundw
      case rel => exact ⟨k + 1, by omega, by go_num, below_drewN hbel _⟩
      case measure => simp [intOf]; omega
    · have e : k = n := by omega
      subst e
      go_wp2
      go_ret
      exact ⟨rfl, hbel⟩

theorem neq_piece (x y : Int) (w : World) : (binOp .neq 53 (.agg #[.int .i64 x, .int .i64 y]) (.agg #[.int .i64 x, .int .i64 y])).run Try.prog w = .ok (.bool false) w := by
  have u3 := Try.underlying3
  have a3 := Try.isAgg3
  have z3 := Try.sizeOf3
  have hS : Try.prog.underlying 53 = some (.struct (Try.prog.fieldsOf 53)) := by kernel_rfl
  have hp : Try.prog.stoodInHeld 53 = false := by kernel_rfl
  rw [run_neq_struct, show (10000 : Nat) = 9999 + 1 from rfl, run_equalIn_agg w 9999 53 _ _ hS hp]
  simp only [Program.fieldsOf, Try.underlying53]
  go_simp
theorem guard_piece (x y : Int) (op : BinOp) (a b : Operand) (w : World) : (eqGuard op 53 a b (.agg #[.int .i64 x, .int .i64 y]) (.agg #[.int .i64 x, .int .i64 y])).run Try.prog w = .ok () w := run_eqGuard_agg w op 53 a b _ _ (by kernel_rfl)
theorem neq_zone (x y z : Int) (w : World) : (binOp .neq 43 (.agg #[.int .i64 x, .int .i64 y, .int .i64 z]) (.agg #[.int .i64 x, .int .i64 y, .int .i64 z])).run Try.prog w = .ok (.bool false) w := by
  have u3 := Try.underlying3
  have a3 := Try.isAgg3
  have z3 := Try.sizeOf3
  have hS : Try.prog.underlying 43 = some (.struct (Try.prog.fieldsOf 43)) := by kernel_rfl
  have hp : Try.prog.stoodInHeld 43 = false := by kernel_rfl
  rw [run_neq_struct, show (10000 : Nat) = 9999 + 1 from rfl, run_equalIn_agg w 9999 43 _ _ hS hp]
  simp only [Program.fieldsOf, Try.underlying43]
  go_simp
theorem guard_zone (x y z : Int) (op : BinOp) (a b : Operand) (w : World) : (eqGuard op 43 a b (.agg #[.int .i64 x, .int .i64 y, .int .i64 z]) (.agg #[.int .i64 x, .int .i64 y, .int .i64 z])).run Try.prog w = .ok () w := run_eqGuard_agg w op 43 a b _ _ (by kernel_rfl)

set_option maxHeartbeats 4000000 in
theorem wProfile_same (P : Prof) (v v' : Value) (w : World) (hl : P.Lies w v) (hl' : P.Lies w v') (hok : P.Ok) :
    Calls Try.prog 18 #[v, v'] w fun e w' => e = .returned (.bool true) ∧ Below w.heap.size w w' := by
  obtain ⟨ap, cp, az, cz, rfl, hn, hn', hr2, hr3⟩ := hl
  obtain ⟨bp, dp, bz, dz, rfl, _, _, gr2, gr3⟩ := hl'
  have HR2 : Hid (Row2 w ap P.np P.L P.B) := hr2
  have HR3 : Hid (Row3 w az P.nz P.F P.T P.S) := hr3
  have GR2 : Hid (Row2 w bp P.np P.L P.B) := gr2
  have GR3 : Hid (Row3 w bz P.nz P.F P.T P.S) := gr3
  have h60 := hok.counts.2.1
  have hz60 := hok.counts.2.2
  clear hr2 hr3 gr2 gr3 hok
  go_enter Try.func18, Try.ntmps18
  go_wp2_with fail
  generalize hW : (w.alloc _).alloc _ = W
  have bW : Below w.heap.size w W := by rw [← hW]; exact ((Below.refl _ _).alloc (Nat.le_refl _) _).alloc (by simp) _
  have HA : Hid (P.BoxAt W w.heap.size ap az cp cz) := by subst hW; exact ⟨by go_simp, by go_simp, by go_simp, by go_simp, by go_simp⟩
  have HB : Hid (P.BoxAt W (w.heap.size + 1) bp bz dp dz) := by subst hW; exact ⟨by go_simp, by go_simp, by go_simp, by go_simp, by go_simp⟩
  clear hW
  go_loopw [47] (fun i wr => ∃ k : Nat, k ≤ P.np ∧ i = .int .i64 k ∧ Hid (Below W.heap.size W wr)) (fun i _ => P.np - (intOf i).toNat)
  case atStart => exact ⟨0, Nat.zero_le _, rfl, Below.refl _ _⟩
  case round =>
    obtain ⟨k, hk, rfl, HQ⟩ := hrel
    have bq : Below w.heap.size w wr := bW.trans (HQ.out.mono bW.size)
    obtain ⟨x0, x1, x2, x3, x4⟩ := HA.out.below HQ.out
    obtain ⟨y0, y1, y2, y3, y4⟩ := HB.out.below HQ.out
    by_cases hlt : k < P.np
    · have hkI : (k : Int) < (P.np : Int) := by omega
      rcases HR2.out with h0 | ⟨b, off, rfl, hb, hc⟩
      · omega
      rcases GR2.out with h0 | ⟨b', off', rfl, hb', hc'⟩
      · omega
      have c0 : wr.cell? ⟨b, off + k * 2, none⟩ = some (.int .i64 (P.L k)) := (bq.cell (p := ⟨b, off + k * 2, none⟩) hb).trans (hc k hlt).1
      have c1 : wr.cell? ⟨b, off + k * 2 + 1, none⟩ = some (.int .i64 (P.B k)) := (bq.cell (p := ⟨b, off + k * 2 + 1, none⟩) hb).trans (hc k hlt).2
      have e0 : wr.cell? ⟨b', off' + k * 2, none⟩ = some (.int .i64 (P.L k)) := (bq.cell (p := ⟨b', off' + k * 2, none⟩) hb').trans (hc' k hlt).1
      have e1 : wr.cell? ⟨b', off' + k * 2 + 1, none⟩ = some (.int .i64 (P.B k)) := (bq.cell (p := ⟨b', off' + k * 2 + 1, none⟩) hb').trans (hc' k hlt).2
      have hq2 := neq_piece (P.L k) (P.B k)
      have hg2 := guard_piece (P.L k) (P.B k)
      clear hc hc'
      go_wp2_with fail
      go_quiet (fail)
      go_wp2
      go_roundw
      case rel => exact ⟨k + 1, by omega, by go_num, below_drewN HQ.out _⟩
      case measure => simp [intOf]; omega
    · have ek : k = P.np := by omega
      subst ek
      go_wp2_with fail
      go_loopw [65] (fun i wr => ∃ k : Nat, k ≤ P.nz ∧ i = .int .i64 k ∧ Hid (Below W.heap.size W wr)) (fun i _ => P.nz - (intOf i).toNat)
      case atStart => exact ⟨0, Nat.zero_le _, rfl, HQ.out⟩
      case round =>
        clear x0 x1 x2 x3 x4 y0 y1 y2 y3 y4 bq HQ
        obtain ⟨k, hk, rfl, HQ⟩ := hrel
        have bq : Below w.heap.size w wr := bW.trans (HQ.out.mono bW.size)
        obtain ⟨x0, x1, x2, x3, x4⟩ := HA.out.below HQ.out
        obtain ⟨y0, y1, y2, y3, y4⟩ := HB.out.below HQ.out
        by_cases hlt : k < P.nz
        · have hkI : (k : Int) < (P.nz : Int) := by omega
          rcases HR3.out with h0 | ⟨b, off, rfl, hb, hc⟩
          · omega
          rcases GR3.out with h0 | ⟨b', off', rfl, hb', hc'⟩
          · omega
          have c0 : wr.cell? ⟨b, off + k * 3, none⟩ = some (.int .i64 (P.F k)) := (bq.cell (p := ⟨b, off + k * 3, none⟩) hb).trans (hc k hlt).1
          have c1 : wr.cell? ⟨b, off + k * 3 + 1, none⟩ = some (.int .i64 (P.T k)) := (bq.cell (p := ⟨b, off + k * 3 + 1, none⟩) hb).trans (hc k hlt).2.1
          have c2 : wr.cell? ⟨b, off + k * 3 + 2, none⟩ = some (.int .i64 (P.S k)) := (bq.cell (p := ⟨b, off + k * 3 + 2, none⟩) hb).trans (hc k hlt).2.2
          have e0 : wr.cell? ⟨b', off' + k * 3, none⟩ = some (.int .i64 (P.F k)) := (bq.cell (p := ⟨b', off' + k * 3, none⟩) hb').trans (hc' k hlt).1
          have e1 : wr.cell? ⟨b', off' + k * 3 + 1, none⟩ = some (.int .i64 (P.T k)) := (bq.cell (p := ⟨b', off' + k * 3 + 1, none⟩) hb').trans (hc' k hlt).2.1
          have e2 : wr.cell? ⟨b', off' + k * 3 + 2, none⟩ = some (.int .i64 (P.S k)) := (bq.cell (p := ⟨b', off' + k * 3 + 2, none⟩) hb').trans (hc' k hlt).2.2
          have hq2 := neq_zone (P.F k) (P.T k) (P.S k)
          have hg2 := guard_zone (P.F k) (P.T k) (P.S k)
          clear hc hc'
          go_wp2_with fail
          go_quiet (fail)
          go_wp2
          go_roundw
          case rel => exact ⟨k + 1, by omega, by go_num, below_drewN HQ.out _⟩
          case measure => simp [intOf]; omega
        · have ek : k = P.nz := by omega
          subst ek
          go_wp2
          go_ret
          exact ⟨rfl, bq⟩

end Go.Proofs.Yteodefmpkljedaa
