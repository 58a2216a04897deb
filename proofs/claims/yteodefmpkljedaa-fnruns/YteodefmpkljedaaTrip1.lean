/-
  The program's greatest speed of a move from a place.
-/
import Derived.Test.YteodefmpkljedaaTrip
import Derived.Test.YteodefmpkljedaaCourse1
namespace Go.Proofs.Yteodefmpkljedaa
open Go.RowKit
attribute [local go_sem ↓] Go.wp_at_zero Go.wp_at_succ
set_option linter.unusedVariables false

set_option maxHeartbeats 4000000 in
theorem mostFrom_any (P : Prof) (v : Value) (y : Int) (w : World) (hc : P.CourseIs w v) (hf : P.Fit) (y0 : 0 ≤ y) (y1 : y ≤ P.fin) :
    Calls Try.prog 108 #[v, .int .i64 y] w fun e w' => e = .returned (.int .i64 (P.top y)) ∧ Below w.heap.size w w' := by
  obtain ⟨ap, cp, az, cz, g, h, nb, cn, b, rfl, hway, hn, hrow, hB⟩ := hc
  have HROW : Hid (BRow w h nb b) := hrow
  have HIS : Hid (mostTo b y nb = P.top y) := hB.most_is hf y1
  have HBD : Hid (∀ i, i < nb → (0 ≤ (b i).1 ∧ (b i).1 ≤ 100000000) ∧ (-1 ≤ (b i).2.2 ∧ (b i).2.2 ≤ 10000)) := fun i hi => by
    obtain ⟨j, hj, e⟩ := hB.only i hi
    rw [e]
    have hfin := hf.fin
    unfold Prof.bound
    by_cases c : j = 0
    · rw [if_pos c]; dsimp only; omega
    · rw [if_neg c]; dsimp only
      have := hf.zones (j - 1) (by omega)
      omega
  have HLE : Hid (∀ k, mostTo b y k ≤ 60) := mostTo_le b y
  obtain ⟨f0, f1⟩ := hf.fin
  clear hway hrow hB hf
  go_enter Try.func108, Try.ntmps108
  go_wp2
  go_loopw [5, 11] (fun sm i wr => ∃ k : Nat, k ≤ nb ∧ i = .int .i64 k ∧ sm = .int .i64 (mostTo b y k) ∧ Hid (Below w.heap.size w wr)) (fun _ i _ => nb - (intOf i).toNat)
  case atStart => exact ⟨0, Nat.zero_le _, rfl, rfl, (Below.refl _ _).alloc (Nat.le_refl _) _⟩
  case round =>
    obtain ⟨k, hk, rfl, rfl, HQ⟩ := hrel
    by_cases hlt : k < nb
    · have hkI : (k : Int) < (nb : Int) := by omega
      obtain ⟨c0, c1, c2⟩ := HROW.out.2 k hlt
      have hb := HROW.out.1
      have z0 : wr.cell? ⟨h, k * 3, none⟩ = some (.int .i64 (b k).1) := (HQ.out.cell (p := ⟨h, k * 3, none⟩) hb).trans c0
      have z1 : wr.cell? ⟨h, k * 3 + 1, none⟩ = some (.int .i64 (b k).2.1) := (HQ.out.cell (p := ⟨h, k * 3 + 1, none⟩) hb).trans c1
      have z2 : wr.cell? ⟨h, k * 3 + 2, none⟩ = some (.int .i64 (b k).2.2) := (HQ.out.cell (p := ⟨h, k * 3 + 2, none⟩) hb).trans c2
      obtain ⟨⟨d0, d1⟩, d2, d3⟩ := HBD.out k hlt
      have hle := HLE.out k
      have HT : Hid (mostTo b y (k + 1) = if y ≤ (b k).2.1 then min (mostTo b y k) (max (b k).2.2 ((b k).1 - 1 - y)) else mostTo b y k) := rfl
      clear c0 c1 c2
      generalize mostTo b y k = mk at *
      generalize b k = bk at *
      obtain ⟨u0, u1, u2⟩ := bk
      dsimp only at *
      have bq := HQ.out.alloc HQ.out.size (.cells #[.int .i64 u0, .int .i64 u1, .int .i64 u2] 122)
      by_cases hy : y ≤ u1
      · have HV : Hid ((if (if u2 < u0 - 1 - y then u0 - 1 - y else u2) < mk then if u2 < u0 - 1 - y then u0 - 1 - y else u2 else mk) = mostTo b y (k + 1)) := by
          show _ = _
          rw [HT.out, if_pos hy]
          by_cases c : u2 < u0 - 1 - y
          · rw [if_pos c]; split <;> omega
          · rw [if_neg c]; split <;> omega
        go_wp2
        exact ⟨⟨k + 1, by omega, by go_num, congrArg (Value.int .i64) HV.out, bq⟩, by simp [intOf]; omega⟩
      · have hy' : decide (y ≤ u1) = false := by simpa using hy
        have HV : Hid (mk = mostTo b y (k + 1)) := by show _ = _; rw [HT.out, if_neg hy]
        go_wp2
        exact ⟨⟨k + 1, by omega, by go_num, congrArg (Value.int .i64) HV.out, bq⟩, by simp [intOf]; omega⟩
    · have ek : k = nb := by omega
      subst ek
      go_wp2
      go_ret
      exact ⟨ret_int HIS.out, HQ.out⟩

end Go.Proofs.Yteodefmpkljedaa
