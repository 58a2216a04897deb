/-
  Comparing two profiles that the laws hold: the same, or not.
-/
import Derived.Test.YteodefmpkljedaaDoorLawHelp
import Derived.Test.YteodefmpkljedaaDoorTextProf
import Derived.Laws.StructEq
import Derived.WalkSmall
import Derived.Deep.QuietTactic
import Derived.BigQuiet
namespace Go.Proofs.YteodefmpkljedaaDoor
open Go.RowKit Go.Sort
set_option linter.unusedVariables false
set_option linter.unusedSimpArgs false

theorem neq_pieceN (x y x' y' : Int) (h : ¬ (x = x' ∧ y = y')) (w : World) : (binOp .neq 46 (.agg #[.int .i64 x, .int .i64 y]) (.agg #[.int .i64 x', .int .i64 y'])).run Tryd.prog w = .ok (.bool true) w := by
  have u3 := Tryd.underlying3
  have a3 := Tryd.isAgg3
  have z3 := Tryd.sizeOf3
  have hS : Tryd.prog.underlying 46 = some (.struct (Tryd.prog.fieldsOf 46)) := by kernel_rfl
  have hp : Tryd.prog.stoodInHeld 46 = false := by kernel_rfl
  rw [run_neq_struct, show (10000 : Nat) = 9999 + 1 from rfl, run_equalIn_agg w 9999 46 _ _ hS hp]
  simp only [Program.fieldsOf, Tryd.underlying46]
  by_cases hx : x = x'
  · subst hx
    have hy : ¬ y = y' := fun e => h ⟨rfl, e⟩
    have hy1 : (y == y') = false := by simpa using hy
    clear h
    go_simp
  · have hx1 : (x == x') = false := by simpa using hx
    clear h
    go_simp
theorem guard_pieceN (x y x' y' : Int) (op : BinOp) (a b : Operand) (w : World) : (eqGuard op 46 a b (.agg #[.int .i64 x, .int .i64 y]) (.agg #[.int .i64 x', .int .i64 y'])).run Tryd.prog w = .ok () w := run_eqGuard_agg w op 46 a b _ _ (by kernel_rfl)
theorem neq_zoneN (x y z x' y' z' : Int) (h : ¬ (x = x' ∧ y = y' ∧ z = z')) (w : World) : (binOp .neq 49 (.agg #[.int .i64 x, .int .i64 y, .int .i64 z]) (.agg #[.int .i64 x', .int .i64 y', .int .i64 z'])).run Tryd.prog w = .ok (.bool true) w := by
  have u3 := Tryd.underlying3
  have a3 := Tryd.isAgg3
  have z3 := Tryd.sizeOf3
  have hS : Tryd.prog.underlying 49 = some (.struct (Tryd.prog.fieldsOf 49)) := by kernel_rfl
  have hp : Tryd.prog.stoodInHeld 49 = false := by kernel_rfl
  rw [run_neq_struct, show (10000 : Nat) = 9999 + 1 from rfl, run_equalIn_agg w 9999 49 _ _ hS hp]
  simp only [Program.fieldsOf, Tryd.underlying49]
  by_cases hx : x = x'
  · subst hx
    by_cases hy : y = y'
    · subst hy
      have hz : ¬ z = z' := fun e => h ⟨rfl, rfl, e⟩
      have hz1 : (z == z') = false := by simpa using hz
      clear h
      go_simp
    · have hy1 : (y == y') = false := by simpa using hy
      clear h
      go_simp
  · have hx1 : (x == x') = false := by simpa using hx
    clear h
    go_simp
theorem guard_zoneN (x y z x' y' z' : Int) (op : BinOp) (a b : Operand) (w : World) : (eqGuard op 49 a b (.agg #[.int .i64 x, .int .i64 y, .int .i64 z]) (.agg #[.int .i64 x', .int .i64 y', .int .i64 z'])).run Tryd.prog w = .ok () w := run_eqGuard_agg w op 49 a b _ _ (by kernel_rfl)

theorem neq_piece (x y : Int) (w : World) : (binOp .neq 46 (.agg #[.int .i64 x, .int .i64 y]) (.agg #[.int .i64 x, .int .i64 y])).run Tryd.prog w = .ok (.bool false) w := by
  have u3 := Tryd.underlying3
  have a3 := Tryd.isAgg3
  have z3 := Tryd.sizeOf3
  have hS : Tryd.prog.underlying 46 = some (.struct (Tryd.prog.fieldsOf 46)) := by kernel_rfl
  have hp : Tryd.prog.stoodInHeld 46 = false := by kernel_rfl
  rw [run_neq_struct, show (10000 : Nat) = 9999 + 1 from rfl, run_equalIn_agg w 9999 46 _ _ hS hp]
  simp only [Program.fieldsOf, Tryd.underlying46]
  go_simp
theorem guard_piece (x y : Int) (op : BinOp) (a b : Operand) (w : World) : (eqGuard op 46 a b (.agg #[.int .i64 x, .int .i64 y]) (.agg #[.int .i64 x, .int .i64 y])).run Tryd.prog w = .ok () w := run_eqGuard_agg w op 46 a b _ _ (by kernel_rfl)
theorem neq_zone (x y z : Int) (w : World) : (binOp .neq 49 (.agg #[.int .i64 x, .int .i64 y, .int .i64 z]) (.agg #[.int .i64 x, .int .i64 y, .int .i64 z])).run Tryd.prog w = .ok (.bool false) w := by
  have u3 := Tryd.underlying3
  have a3 := Tryd.isAgg3
  have z3 := Tryd.sizeOf3
  have hS : Tryd.prog.underlying 49 = some (.struct (Tryd.prog.fieldsOf 49)) := by kernel_rfl
  have hp : Tryd.prog.stoodInHeld 49 = false := by kernel_rfl
  rw [run_neq_struct, show (10000 : Nat) = 9999 + 1 from rfl, run_equalIn_agg w 9999 49 _ _ hS hp]
  simp only [Program.fieldsOf, Tryd.underlying49]
  go_simp
theorem guard_zone (x y z : Int) (op : BinOp) (a b : Operand) (w : World) : (eqGuard op 49 a b (.agg #[.int .i64 x, .int .i64 y, .int .i64 z]) (.agg #[.int .i64 x, .int .i64 y, .int .i64 z])).run Tryd.prog w = .ok () w := run_eqGuard_agg w op 49 a b _ _ (by kernel_rfl)

set_option maxHeartbeats 4000000 in
theorem wProfile_eq (P : Prof) (v v' : Value) (w : World) (hl : P.Lies w v) (hl' : P.Lies w v') (h60 : P.np ≤ 60) (hz60 : P.nz ≤ 60) :
    Calls Tryd.prog 8 #[v, v'] w fun e w' => e = .returned (.bool true) ∧ Below w.heap.size w w' := by
  obtain ⟨ap, cp, az, cz, rfl, hn, hn', hr2, hr3⟩ := hl
  obtain ⟨bp, dp, bz, dz, rfl, _, _, gr2, gr3⟩ := hl'
  have HR2 : Hid (Row2 w ap P.np P.L P.B) := hr2
  have HR3 : Hid (Row3 w az P.nz P.F P.T P.S) := hr3
  have GR2 : Hid (Row2 w bp P.np P.L P.B) := gr2
  have GR3 : Hid (Row3 w bz P.nz P.F P.T P.S) := gr3
  clear hr2 hr3 gr2 gr3
  go_enter Tryd.func8, Tryd.ntmps8
  go_wp2_with fail
  generalize hW : (w.alloc _).alloc _ = W
  have bW : Below w.heap.size w W := by rw [← hW]; exact ((Below.refl _ _).alloc (Nat.le_refl _) _).alloc (by simp) _
  have HA : Hid (P.BoxAt W w.heap.size ap az cp cz) := by subst hW; exact ⟨by go_simp, by go_simp, by go_simp, by go_simp, by go_simp⟩
  have HB : Hid (P.BoxAt W (w.heap.size + 1) bp bz dp dz) := by subst hW; exact ⟨by go_simp, by go_simp, by go_simp, by go_simp, by go_simp⟩
  clear hW
  go_loopw [47] (fun i wr => ∃ k : Nat, k ≤ P.np ∧ i = .int .i64 k ∧ Hid (Below W.heap.size W wr)) (fun i _ => P.np - (intOf i).toNat)
  case atStart => exact ⟨0, Nat.zero_le _, rfl, Below.refl _ _⟩
  case round =>
    obtain ⟨k, hk, rfl, HQ⟩ := hrel
    have bq : Below w.heap.size w wr := bW.trans (HQ.out.mono bW.size)
    obtain ⟨x0, x1, x2, x3, x4⟩ := HA.out.below HQ.out
    obtain ⟨y0, y1, y2, y3, y4⟩ := HB.out.below HQ.out
    by_cases hlt : k < P.np
    · have hkI : (k : Int) < (P.np : Int) := by omega
      rcases HR2.out with h0 | ⟨b, off, rfl, hb, hc⟩
      · omega
      rcases GR2.out with h0 | ⟨b', off', rfl, hb', hc'⟩
      · omega
      have c0 : wr.cell? ⟨b, off + k * 2, none⟩ = some (.int .i64 (P.L k)) := (bq.cell (p := ⟨b, off + k * 2, none⟩) hb).trans (hc k hlt).1
      have c1 : wr.cell? ⟨b, off + k * 2 + 1, none⟩ = some (.int .i64 (P.B k)) := (bq.cell (p := ⟨b, off + k * 2 + 1, none⟩) hb).trans (hc k hlt).2
      have e0 : wr.cell? ⟨b', off' + k * 2, none⟩ = some (.int .i64 (P.L k)) := (bq.cell (p := ⟨b', off' + k * 2, none⟩) hb').trans (hc' k hlt).1
      have e1 : wr.cell? ⟨b', off' + k * 2 + 1, none⟩ = some (.int .i64 (P.B k)) := (bq.cell (p := ⟨b', off' + k * 2 + 1, none⟩) hb').trans (hc' k hlt).2
      have hq2 := neq_piece (P.L k) (P.B k)
      have hg2 := guard_piece (P.L k) (P.B k)
      clear hc hc'
      go_wp2_with fail
      go_quiet (fail)
      go_wp2
      go_roundw
      case rel => exact ⟨k + 1, by omega, by go_num, below_drewN HQ.out _⟩
      case measure => simp [intOf]; omega
    · have ek : k = P.np := by omega
      subst ek
      go_wp2_with fail
      go_loopw [65] (fun i wr => ∃ k : Nat, k ≤ P.nz ∧ i = .int .i64 k ∧ Hid (Below W.heap.size W wr)) (fun i _ => P.nz - (intOf i).toNat)
      case atStart => exact ⟨0, Nat.zero_le _, rfl, HQ.out⟩
      case round =>
        clear x0 x1 x2 x3 x4 y0 y1 y2 y3 y4 bq HQ
        obtain ⟨k, hk, rfl, HQ⟩ := hrel
        have bq : Below w.heap.size w wr := bW.trans (HQ.out.mono bW.size)
        obtain ⟨x0, x1, x2, x3, x4⟩ := HA.out.below HQ.out
        obtain ⟨y0, y1, y2, y3, y4⟩ := HB.out.below HQ.out
        by_cases hlt : k < P.nz
        · have hkI : (k : Int) < (P.nz : Int) := by omega
          rcases HR3.out with h0 | ⟨b, off, rfl, hb, hc⟩
          · omega
          rcases GR3.out with h0 | ⟨b', off', rfl, hb', hc'⟩
          · omega
          have c0 : wr.cell? ⟨b, off + k * 3, none⟩ = some (.int .i64 (P.F k)) := (bq.cell (p := ⟨b, off + k * 3, none⟩) hb).trans (hc k hlt).1
          have c1 : wr.cell? ⟨b, off + k * 3 + 1, none⟩ = some (.int .i64 (P.T k)) := (bq.cell (p := ⟨b, off + k * 3 + 1, none⟩) hb).trans (hc k hlt).2.1
          have c2 : wr.cell? ⟨b, off + k * 3 + 2, none⟩ = some (.int .i64 (P.S k)) := (bq.cell (p := ⟨b, off + k * 3 + 2, none⟩) hb).trans (hc k hlt).2.2
          have e0 : wr.cell? ⟨b', off' + k * 3, none⟩ = some (.int .i64 (P.F k)) := (bq.cell (p := ⟨b', off' + k * 3, none⟩) hb').trans (hc' k hlt).1
          have e1 : wr.cell? ⟨b', off' + k * 3 + 1, none⟩ = some (.int .i64 (P.T k)) := (bq.cell (p := ⟨b', off' + k * 3 + 1, none⟩) hb').trans (hc' k hlt).2.1
          have e2 : wr.cell? ⟨b', off' + k * 3 + 2, none⟩ = some (.int .i64 (P.S k)) := (bq.cell (p := ⟨b', off' + k * 3 + 2, none⟩) hb').trans (hc' k hlt).2.2
          have hq2 := neq_zone (P.F k) (P.T k) (P.S k)
          have hg2 := guard_zone (P.F k) (P.T k) (P.S k)
          clear hc hc'
          go_wp2_with fail
          go_quiet (fail)
          go_wp2
          go_roundw
          case rel => exact ⟨k + 1, by omega, by go_num, below_drewN HQ.out _⟩
          case measure => simp [intOf]; omega
        · have ek : k = P.nz := by omega
          subst ek
          go_wp2
          go_ret
          exact ⟨rfl, bq⟩

set_option maxHeartbeats 4000000 in
theorem wProfile_no (P Q : Prof) (v v' : Value) (w : World) (hl : P.Lies w v) (hl' : Q.Lies w v') (h60 : P.np ≤ 60) (hz60 : P.nz ≤ 60) (g60 : Q.np ≤ 60) (gz60 : Q.nz ≤ 60) (hd : ¬ Same P Q) :
    Calls Tryd.prog 8 #[v, v'] w fun e w' => e = .returned (.bool false) ∧ Below w.heap.size w w' := by
  obtain ⟨ap, cp, az, cz, rfl, hn, hn', hr2, hr3⟩ := hl
  obtain ⟨bp, dp, bz, dz, rfl, _, _, gr2, gr3⟩ := hl'
  have HD : Hid (¬ Same P Q) := hd
  clear hd
  have bb : ∀ o o' : Obj, Below w.heap.size w ((w.alloc o).alloc o') := fun o o' => ((Below.refl _ _).alloc (Nat.le_refl _) _).alloc (by simp) _
  by_cases n1 : ¬ P.np = Q.np
  · have m1 : ((P.np : Int) != (Q.np : Int)) = true := by simp; omega
    clear hr2 hr3 gr2 gr3
    go_enter Tryd.func8, Tryd.ntmps8
    go_wp2
    go_ret
    exact ⟨rfl, bb _ _⟩
  have e1 : Q.np = P.np := by omega
  rw [e1] at gr2 ⊢
  clear n1 g60
  by_cases n2 : ¬ P.nz = Q.nz
  · have m2 : ((P.nz : Int) != (Q.nz : Int)) = true := by simp; omega
    clear hr2 hr3 gr2 gr3
    go_enter Tryd.func8, Tryd.ntmps8
    go_wp2
    go_ret
    exact ⟨rfl, bb _ _⟩
  have e2 : Q.nz = P.nz := by omega
  rw [e2] at gr3 ⊢
  clear n2 gz60
  by_cases n3 : ¬ P.train = Q.train
  · have m3 : (P.train != Q.train) = true := by simpa using n3
    clear hr2 hr3 gr2 gr3 e1 e2
    go_enter Tryd.func8, Tryd.ntmps8
    go_wp2
    go_ret
    exact ⟨rfl, bb _ _⟩
  have e3 : Q.train = P.train := by omega
  rw [e3]
  clear n3
  by_cases n4 : ¬ P.fin = Q.fin
  · have m4 : (P.fin != Q.fin) = true := by simpa using n4
    clear hr2 hr3 gr2 gr3 e1 e2 e3
    go_enter Tryd.func8, Tryd.ntmps8
    go_wp2
    go_ret
    exact ⟨rfl, bb _ _⟩
  have e4 : Q.fin = P.fin := by omega
  rw [e4]
  clear n4
  by_cases n5 : ¬ P.delay = Q.delay
  · have m5 : (P.delay != Q.delay) = true := by simpa using n5
    clear hr2 hr3 gr2 gr3 e1 e2 e3 e4
    go_enter Tryd.func8, Tryd.ntmps8
    go_wp2
    go_ret
    exact ⟨rfl, bb _ _⟩
  have e5 : Q.delay = P.delay := by omega
  rw [e5]
  clear n5
  have HD2 : Hid (¬ ((∀ j, j < P.np → P.L j = Q.L j ∧ P.B j = Q.B j) ∧ (∀ j, j < P.nz → P.F j = Q.F j ∧ P.T j = Q.T j ∧ P.S j = Q.S j))) := fun q => HD.out ⟨e1.symm, e2.symm, e3.symm, e4.symm, e5.symm, q.1, q.2⟩
  clear HD e1 e2 e3 e4 e5 bb
  have HR2 : Hid (Row2 w ap P.np P.L P.B) := hr2
  have HR3 : Hid (Row3 w az P.nz P.F P.T P.S) := hr3
  have GR2 : Hid (Row2 w bp P.np Q.L Q.B) := gr2
  have GR3 : Hid (Row3 w bz P.nz Q.F Q.T Q.S) := gr3
  clear hr2 hr3 gr2 gr3
  go_enter Tryd.func8, Tryd.ntmps8
  go_wp2_with fail
  generalize hW : (w.alloc _).alloc _ = W
  have bW : Below w.heap.size w W := by rw [← hW]; exact ((Below.refl _ _).alloc (Nat.le_refl _) _).alloc (by simp) _
  have HA : Hid (P.BoxAt W w.heap.size ap az cp cz) := by subst hW; exact ⟨by go_simp, by go_simp, by go_simp, by go_simp, by go_simp⟩
  have HB : Hid (P.BoxAt W (w.heap.size + 1) bp bz dp dz) := by subst hW; exact ⟨by go_simp, by go_simp, by go_simp, by go_simp, by go_simp⟩
  clear hW
  go_loopw [47] (fun i wr => ∃ k : Nat, k ≤ P.np ∧ i = .int .i64 k ∧ Hid (Below W.heap.size W wr ∧ ∀ j, j < k → P.L j = Q.L j ∧ P.B j = Q.B j)) (fun i _ => P.np - (intOf i).toNat)
  case atStart => exact ⟨0, Nat.zero_le _, rfl, Below.refl _ _, fun j hj => absurd hj (Nat.not_lt_zero j)⟩
  case round =>
    obtain ⟨k, hk, rfl, HQ⟩ := hrel
    have bq : Below w.heap.size w wr := bW.trans (HQ.out.1.mono bW.size)
    obtain ⟨x0, x1, x2, x3, x4⟩ := HA.out.below HQ.out.1
    obtain ⟨y0, y1, y2, y3, y4⟩ := HB.out.below HQ.out.1
    by_cases hlt : k < P.np
    · have hkI : (k : Int) < (P.np : Int) := by omega
      rcases HR2.out with h0 | ⟨b, off, rfl, hb, hc⟩
      · omega
      rcases GR2.out with h0 | ⟨b', off', rfl, hb', hc'⟩
      · omega
      have c0 : wr.cell? ⟨b, off + k * 2, none⟩ = some (.int .i64 (P.L k)) := (bq.cell (p := ⟨b, off + k * 2, none⟩) hb).trans (hc k hlt).1
      have c1 : wr.cell? ⟨b, off + k * 2 + 1, none⟩ = some (.int .i64 (P.B k)) := (bq.cell (p := ⟨b, off + k * 2 + 1, none⟩) hb).trans (hc k hlt).2
      have e0 : wr.cell? ⟨b', off' + k * 2, none⟩ = some (.int .i64 (Q.L k)) := (bq.cell (p := ⟨b', off' + k * 2, none⟩) hb').trans (hc' k hlt).1
      have e1 : wr.cell? ⟨b', off' + k * 2 + 1, none⟩ = some (.int .i64 (Q.B k)) := (bq.cell (p := ⟨b', off' + k * 2 + 1, none⟩) hb').trans (hc' k hlt).2
      clear hc hc'
      by_cases hs : P.L k = Q.L k ∧ P.B k = Q.B k
      · rw [← hs.1] at e0
        rw [← hs.2] at e1
        have HS : Hid (P.L k = Q.L k ∧ P.B k = Q.B k) := hs
        clear hs
        have hq2 := neq_piece (P.L k) (P.B k)
        have hg2 := guard_piece (P.L k) (P.B k)
        go_wp2_with fail
        go_quiet (fail)
        go_wp2
        go_roundw
        case rel => exact ⟨k + 1, by omega, by go_num, below_drewN HQ.out.1 _, fun j hj => by
          rcases Nat.lt_or_ge j k with q | q
          · exact HQ.out.2 j q
          · have : j = k := by omega
            subst this
            exact HS.out⟩
        case measure => simp [intOf]; omega
      · have hq2 := neq_pieceN (P.L k) (P.B k) (Q.L k) (Q.B k) hs
        have hg2 := guard_pieceN (P.L k) (P.B k) (Q.L k) (Q.B k)
        clear hs
        go_wp2_with fail
        go_quiet (fail)
        go_wp2
        go_ret
        exact ⟨rfl, bW.trans ((below_drewN HQ.out.1 _).mono bW.size)⟩
    · have ek : k = P.np := by omega
      subst ek
      have HP1 : Hid (∀ j, j < P.np → P.L j = Q.L j ∧ P.B j = Q.B j) := HQ.out.2
      go_wp2_with fail
      go_loopw [65] (fun i wr => ∃ k : Nat, k ≤ P.nz ∧ i = .int .i64 k ∧ Hid (Below W.heap.size W wr ∧ ∀ j, j < k → P.F j = Q.F j ∧ P.T j = Q.T j ∧ P.S j = Q.S j)) (fun i _ => P.nz - (intOf i).toNat)
      case atStart => exact ⟨0, Nat.zero_le _, rfl, HQ.out.1, fun j hj => absurd hj (Nat.not_lt_zero j)⟩
      case round =>
        clear x0 x1 x2 x3 x4 y0 y1 y2 y3 y4 bq HQ
        obtain ⟨k, hk, rfl, HQ⟩ := hrel
        have bq : Below w.heap.size w wr := bW.trans (HQ.out.1.mono bW.size)
        obtain ⟨x0, x1, x2, x3, x4⟩ := HA.out.below HQ.out.1
        obtain ⟨y0, y1, y2, y3, y4⟩ := HB.out.below HQ.out.1
        by_cases hlt : k < P.nz
        · have hkI : (k : Int) < (P.nz : Int) := by omega
          rcases HR3.out with h0 | ⟨b, off, rfl, hb, hc⟩
          · omega
          rcases GR3.out with h0 | ⟨b', off', rfl, hb', hc'⟩
          · omega
          have c0 : wr.cell? ⟨b, off + k * 3, none⟩ = some (.int .i64 (P.F k)) := (bq.cell (p := ⟨b, off + k * 3, none⟩) hb).trans (hc k hlt).1
          have c1 : wr.cell? ⟨b, off + k * 3 + 1, none⟩ = some (.int .i64 (P.T k)) := (bq.cell (p := ⟨b, off + k * 3 + 1, none⟩) hb).trans (hc k hlt).2.1
          have c2 : wr.cell? ⟨b, off + k * 3 + 2, none⟩ = some (.int .i64 (P.S k)) := (bq.cell (p := ⟨b, off + k * 3 + 2, none⟩) hb).trans (hc k hlt).2.2
          have e0 : wr.cell? ⟨b', off' + k * 3, none⟩ = some (.int .i64 (Q.F k)) := (bq.cell (p := ⟨b', off' + k * 3, none⟩) hb').trans (hc' k hlt).1
          have e1 : wr.cell? ⟨b', off' + k * 3 + 1, none⟩ = some (.int .i64 (Q.T k)) := (bq.cell (p := ⟨b', off' + k * 3 + 1, none⟩) hb').trans (hc' k hlt).2.1
          have e2 : wr.cell? ⟨b', off' + k * 3 + 2, none⟩ = some (.int .i64 (Q.S k)) := (bq.cell (p := ⟨b', off' + k * 3 + 2, none⟩) hb').trans (hc' k hlt).2.2
          clear hc hc'
          by_cases hs : P.F k = Q.F k ∧ P.T k = Q.T k ∧ P.S k = Q.S k
          · rw [← hs.1] at e0
            rw [← hs.2.1] at e1
            rw [← hs.2.2] at e2
            have HS : Hid (P.F k = Q.F k ∧ P.T k = Q.T k ∧ P.S k = Q.S k) := hs
            clear hs
            have hq2 := neq_zone (P.F k) (P.T k) (P.S k)
            have hg2 := guard_zone (P.F k) (P.T k) (P.S k)
            go_wp2_with fail
            go_quiet (fail)
            go_wp2
            go_roundw
            case rel => exact ⟨k + 1, by omega, by go_num, below_drewN HQ.out.1 _, fun j hj => by
              rcases Nat.lt_or_ge j k with q | q
              · exact HQ.out.2 j q
              · have : j = k := by omega
                subst this
                exact HS.out⟩
            case measure => simp [intOf]; omega
          · have hq2 := neq_zoneN (P.F k) (P.T k) (P.S k) (Q.F k) (Q.T k) (Q.S k) hs
            have hg2 := guard_zoneN (P.F k) (P.T k) (P.S k) (Q.F k) (Q.T k) (Q.S k)
            clear hs
            go_wp2_with fail
            go_quiet (fail)
            go_wp2
            go_ret
            exact ⟨rfl, bW.trans ((below_drewN HQ.out.1 _).mono bW.size)⟩
        · have ek : k = P.nz := by omega
          subst ek
          exact absurd ⟨HP1.out, HQ.out.2⟩ HD2.out

end Go.Proofs.YteodefmpkljedaaDoor
