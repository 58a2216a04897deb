/-
  The models' walks of chapter 2.
-/
import Derived.Test.YteodefmpkljedaaProg
import Derived.Test.YteodefmpkljedaaProf
import Derived.Test.YteodefmpkljedaaSpecSlow
import Derived.KernelRfl
namespace Go.Proofs.Yteodefmpkljedaa
open Go.RowKit
set_option linter.unusedVariables false

set_option maxHeartbeats 1000000 in
theorem l2total_any (P : Prof) (v : Value) (w : World) (hl : P.Lies w v) (hok : P.Lens) :
    Calls Try.prog 76 #[v] w fun e w' => e = .returned (.int .i64 P.total) ∧ Below w.heap.size w w' := by
  obtain ⟨ap, cp, az, cz, rfl, hn, hn', hr2, hr3⟩ := hl
  have hsz := hok.1
  have HB : Hid (∀ k : Nat, k ≤ P.np → (k : Int) ≤ sumTo P.L k ∧ sumTo P.L k ≤ 1666666 * k) := sumTo_bounds hok.2
  have HL : Hid (P.Lens) := hok
  have HR : Hid (Row2 w ap P.np P.L P.B) := hr2
  clear hok hr2 hr3
  go_enter Try.func76, Try.ntmps76
  go_wp2
  go_loopw [3, 9] (fun s i wr => ∃ k : Nat, k ≤ P.np ∧ i = .int .i64 k ∧ s = .int .i64 (sumTo P.L k) ∧ Below w.heap.size w wr) (fun _ i _ => P.np - (intOf i).toNat)
  case atStart => exact ⟨0, Nat.zero_le _, rfl, rfl, (Below.refl _ _).alloc (Nat.le_refl _) _⟩
  case round =>
    obtain ⟨k, hk, rfl, rfl, hbel⟩ := hrel
    by_cases hlt : k < P.np
    · rcases HR.out with h0 | ⟨b, off, rfl, hb, hc⟩
      · omega
      · have c0 : wr.cell? ⟨b, off + k * 2, none⟩ = some (.int .i64 (P.L k)) := by rw [hbel.cell hb]; exact (hc k hlt).1
        have c1 : wr.cell? ⟨b, off + k * 2 + 1, none⟩ = some (.int .i64 (P.B k)) := by rw [hbel.cell hb]; exact (hc k hlt).2
        have g1 := HB.out k hk
        have g2 := HL.out.2 k hlt
        clear hc
        go_wp2
        go_roundw
        case rel => exact ⟨k + 1, by omega, by go_num, by simp [sumTo], hbel.alloc hbel.size _⟩
        case measure => simp [intOf]; omega
    · have e : k = P.np := by omega
      subst e
      go_wp2
      go_ret
      exact ⟨ret_int rfl, hbel⟩

set_option maxHeartbeats 1000000 in
theorem l2rate_any (P : Prof) (v : Value) (x : Int) (w : World) (hl : P.Lies w v) (hok : P.Lens) (h1 : 1 ≤ P.np) :
    Calls Try.prog 53 #[v, .int .i64 x] w fun e w' => e = .returned (.int .i64 (P.rate x)) ∧ Below w.heap.size w w' := by
  obtain ⟨ap, cp, az, cz, rfl, hn, hn', hr2, hr3⟩ := hl
  have hsz := hok.1
  have HB : Hid (∀ k : Nat, k ≤ P.np → (k : Int) ≤ sumTo P.L k ∧ sumTo P.L k ≤ 1666666 * k) := sumTo_bounds hok.2
  have HL : Hid (P.Lens) := hok
  rcases hr2 with h0 | ⟨b, off, rfl, hb, hc⟩
  · omega
  have HC : Hid (∀ j, j < P.np → w.cell? ⟨b, off + j * 2, none⟩ = some (.int .i64 (P.L j)) ∧ w.cell? ⟨b, off + j * 2 + 1, none⟩ = some (.int .i64 (P.B j))) := hc
  clear hok hr3 hc
  go_enter Try.func53, Try.ntmps53
  go_wp2
  go_loopw [5, 11] (fun s i wr => ∃ k : Nat, k ≤ P.np ∧ i = .int .i64 k ∧ s = .int .i64 (sumTo P.L k) ∧ Hid (P.rate x = rateUp P.L P.B x (P.np - k) k) ∧ wr.cell? ⟨w.heap.size, 0, none⟩ = some (.slice (some ⟨b, off, none⟩) P.np cp) ∧ Below w.heap.size w wr) (fun _ i _ => P.np - (intOf i).toNat)
  case atStart => exact ⟨0, Nat.zero_le _, rfl, rfl, rfl, by go_simp, (Below.refl _ _).alloc (Nat.le_refl _) _⟩
  case round =>
    obtain ⟨k, hk, rfl, rfl, HK, hbox, hbel⟩ := hrel
    by_cases hlt : k < P.np
    · have c0 : wr.cell? ⟨b, off + k * 2, none⟩ = some (.int .i64 (P.L k)) := by rw [hbel.cell hb]; exact (HC.out k hlt).1
      have c1 : wr.cell? ⟨b, off + k * 2 + 1, none⟩ = some (.int .i64 (P.B k)) := by rw [hbel.cell hb]; exact (HC.out k hlt).2
      have g1 := HB.out k hk
      have g2 := HL.out.2 k hlt
      have hbx : w.heap.size < wr.heap.size := World.block_lt_of_cell? _ _ hbox
      by_cases hx : x < sumTo P.L k + P.L k
      · have HE : Hid (P.rate x = P.B k) := by
          show P.rate x = P.B k
          rw [HK.out, show P.np - k = (P.np - k - 1) + 1 by omega]
          unfold rateUp; rw [if_pos (by simpa [sumTo] using hx)]
        go_wp2
        go_ret
        exact ⟨ret_int HE.out.symm, hbel.alloc hbel.size _⟩
      · have HE : Hid (P.rate x = rateUp P.L P.B x (P.np - (k + 1)) (k + 1)) := by
          show P.rate x = _
          rw [HK.out, show P.np - k = (P.np - (k + 1)) + 1 by omega]
          conv => lhs; unfold rateUp
          rw [if_neg (by simpa [sumTo] using hx)]
        go_wp2
        go_roundw
        case rel => exact ⟨k + 1, by omega, by go_num, by simp [sumTo], HE.out, by rw [World.cell?_alloc_lt _ _ _ hbx]; exact hbox, hbel.alloc hbel.size _⟩
        case measure => simp [intOf]; omega
    · have e : k = P.np := by omega
      subst e
      have HE : Hid (P.rate x = P.B (P.np - 1)) := by
        show P.rate x = _
        rw [HK.out, Nat.sub_self]; rfl
      have c1 : wr.cell? ⟨b, off + (P.np - 1) * 2 + 1, none⟩ = some (.int .i64 (P.B (P.np - 1))) := by rw [hbel.cell hb]; exact (HC.out _ (by omega)).2
      go_wp2
      go_ret
      exact ⟨ret_int HE.out.symm, hbel⟩

theorem l2less_any (v b : Int) (w : World) (hv : 0 ≤ v) (hv' : v ≤ 1000000000) (hb : 0 ≤ b) (hb' : b ≤ 1000000000) :
    Calls Try.prog 52 #[.int .i64 v, .int .i64 b] w fun e w' => e = .returned (.int .i64 (less v b)) ∧ w' = w := by
  by_cases h : v < b
  · go_enter Try.func52, Try.ntmps52
    go_wp2
    go_ret
    exact ⟨ret_int (by unfold less; rw [if_pos h]), rfl⟩
  · go_enter Try.func52, Try.ntmps52
    go_wp2
    go_ret
    exact ⟨ret_int (by unfold less; rw [if_neg (by omega)]), rfl⟩

set_option maxHeartbeats 1000000 in
theorem l2over_any (P : Prof) (v : Value) (x y : Int) (w : World) (hl : P.Lies w v) (hok : P.Ok) :
    Calls Try.prog 113 #[v, .int .i64 x, .int .i64 y] w fun e w' => e = .returned (.int .i64 (P.over x y)) ∧ Below w.heap.size w w' := by
  obtain ⟨ap, cp, az, cz, rfl, hn, hn', hr2, hr3⟩ := hl
  have hsz := hok.counts.2.2
  have ht := hok.train
  obtain ⟨ht0, ht1⟩ := ht
  have htot := (Prof.total_bounds hok.lens).2
  have HZ : Hid (P.ZonesOk) := hok.zones
  have HR : Hid (Row3 w az P.nz P.F P.T P.S) := hr3
  clear hok hr2 hr3
  go_enter Try.func113, Try.ntmps113
  go_wp2
  go_loopw [7, 13] (fun s i wr => ∃ k : Nat, k ≤ P.nz ∧ i = .int .i64 k ∧ s = .int .i64 (P.overTo x y k) ∧ wr.cell? ⟨w.heap.size, 2, none⟩ = some (.int .i64 P.train) ∧ Below w.heap.size w wr) (fun _ i _ => P.nz - (intOf i).toNat)
  case atStart => exact ⟨0, Nat.zero_le _, rfl, rfl, by go_simp, (Below.refl _ _).alloc (Nat.le_refl _) _⟩
  case round =>
    obtain ⟨k, hk, rfl, rfl, hbox, hbel⟩ := hrel
    have hbx : w.heap.size < wr.heap.size := World.block_lt_of_cell? _ _ hbox
    by_cases hlt : k < P.nz
    · rcases HR.out with h0 | ⟨b, off, rfl, hb, hc⟩
      · omega
      · have c0 : wr.cell? ⟨b, off + k * 3, none⟩ = some (.int .i64 (P.F k)) := by rw [hbel.cell hb]; exact (hc k hlt).1
        have c1 : wr.cell? ⟨b, off + k * 3 + 1, none⟩ = some (.int .i64 (P.T k)) := by rw [hbel.cell hb]; exact (hc k hlt).2.1
        have c2 : wr.cell? ⟨b, off + k * 3 + 2, none⟩ = some (.int .i64 (P.S k)) := by rw [hbel.cell hb]; exact (hc k hlt).2.2
        obtain ⟨⟨f0, f1⟩, ⟨t0, t1⟩, s0, s1⟩ := HZ.out k hlt
        clear hc
        by_cases q1 : P.F k ≤ y
        · by_cases q2 : x ≤ P.T k + P.train
          · by_cases q3 : P.S k < P.overTo x y k
            · have HE : Hid (P.overTo x y (k + 1) = P.S k) := by show P.overTo x y (k + 1) = _; rw [Prof.overTo, if_pos ⟨q1, q2, q3⟩]
              go_wp2
              go_roundw
              case rel => exact ⟨k + 1, by omega, by go_num, by rw [HE.out], by rw [World.cell?_alloc_lt _ _ _ hbx]; exact hbox, hbel.alloc hbel.size _⟩
              case measure => simp [intOf]; omega
            · have HE : Hid (P.overTo x y (k + 1) = P.overTo x y k) := by show P.overTo x y (k + 1) = _; rw [Prof.overTo, if_neg (fun c => q3 c.2.2)]
              have q3' : decide (P.S k < P.overTo x y k) = false := by simpa using q3
              go_wp2
              go_roundw
              case rel => exact ⟨k + 1, by omega, by go_num, by rw [HE.out], by rw [World.cell?_alloc_lt _ _ _ hbx]; exact hbox, hbel.alloc hbel.size _⟩
              case measure => simp [intOf]; omega
          · have HE : Hid (P.overTo x y (k + 1) = P.overTo x y k) := by show P.overTo x y (k + 1) = _; rw [Prof.overTo, if_neg (fun c => q2 c.2.1)]
            have q2' : decide (x ≤ P.T k + P.train) = false := by simpa using q2
            go_wp2
            go_roundw
            case rel => exact ⟨k + 1, by omega, by go_num, by rw [HE.out], by rw [World.cell?_alloc_lt _ _ _ hbx]; exact hbox, hbel.alloc hbel.size _⟩
            case measure => simp [intOf]; omega
        · have HE : Hid (P.overTo x y (k + 1) = P.overTo x y k) := by show P.overTo x y (k + 1) = _; rw [Prof.overTo, if_neg (fun c => q1 c.1)]
          have q1' : decide (P.F k ≤ y) = false := by simpa using q1
          go_wp2
          go_roundw
          case rel => exact ⟨k + 1, by omega, by go_num, by rw [HE.out], by rw [World.cell?_alloc_lt _ _ _ hbx]; exact hbox, hbel.alloc hbel.size _⟩
          case measure => simp [intOf]; omega
    · have e : k = P.nz := by omega
      subst e
      go_wp2
      go_ret
      exact ⟨ret_int rfl, hbel⟩

end Go.Proofs.Yteodefmpkljedaa
