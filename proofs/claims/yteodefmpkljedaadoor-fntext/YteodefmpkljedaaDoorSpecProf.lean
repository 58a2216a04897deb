/-
  The models' walks of chapter 2.
-/
import Derived.Test.YteodefmpkljedaaDoorProg
import Derived.Test.YteodefmpkljedaaDoorProf
import Derived.Test.YteodefmpkljedaaDoorSpecSlow
import Derived.KernelRfl
namespace Go.Proofs.YteodefmpkljedaaDoor
open Go.RowKit
set_option linter.unusedVariables false

set_option maxHeartbeats 1000000 in
theorem l2total_any (P : Prof) (v : Value) (w : World) (hl : P.Lies w v) (hok : P.Lens) :
    Calls Tryd.prog 40 #[v] w fun e w' => e = .returned (.int .i64 P.total) ∧ Below w.heap.size w w' := by
  obtain ⟨ap, cp, az, cz, rfl, hn, hn', hr2, hr3⟩ := hl
  have hsz := hok.1
  have HB : Hid (∀ k : Nat, k ≤ P.np → (k : Int) ≤ sumTo P.L k ∧ sumTo P.L k ≤ 1666666 * k) := sumTo_bounds hok.2
  have HL : Hid (P.Lens) := hok
  have HR : Hid (Row2 w ap P.np P.L P.B) := hr2
  clear hok hr2 hr3
  go_enter Tryd.func40, Tryd.ntmps40
  go_wp2
  go_loopw [3, 9] (fun s i wr => ∃ k : Nat, k ≤ P.np ∧ i = .int .i64 k ∧ s = .int .i64 (sumTo P.L k) ∧ Below w.heap.size w wr) (fun _ i _ => P.np - (intOf i).toNat)
  case atStart => exact ⟨0, Nat.zero_le _, rfl, rfl, (Below.refl _ _).alloc (Nat.le_refl _) _⟩
  case round =>
    obtain ⟨k, hk, rfl, rfl, hbel⟩ := hrel
    by_cases hlt : k < P.np
    · rcases HR.out with h0 | ⟨b, off, rfl, hb, hc⟩
      · omega
      · have c0 : wr.cell? ⟨b, off + k * 2, none⟩ = some (.int .i64 (P.L k)) := by rw [hbel.cell hb]; exact (hc k hlt).1
        have c1 : wr.cell? ⟨b, off + k * 2 + 1, none⟩ = some (.int .i64 (P.B k)) := by rw [hbel.cell hb]; exact (hc k hlt).2
        have g1 := HB.out k hk
        have g2 := HL.out.2 k hlt
        clear hc
        go_wp2
        go_roundw
        case rel => exact ⟨k + 1, by omega, by go_num, by simp [sumTo], hbel.alloc hbel.size _⟩
        case measure => simp [intOf]; omega
    · have e : k = P.np := by omega
      subst e
      go_wp2
      go_ret
      exact ⟨ret_int rfl, hbel⟩

end Go.Proofs.YteodefmpkljedaaDoor
