/-
  The laws' helpers on what Fastest answers: eqRun, markRun, heldRun.
-/
import Derived.Test.YteodefmpkljedabLawInts
namespace Go.Proofs.Yteodefmpkljedab
open Go.RowKit
set_option linter.unusedVariables false
set_option linter.unusedSimpArgs false

set_option maxHeartbeats 1000000 in
theorem eqRun_same (o : Bool) (a a' : Option Addr) (n c c' : Nat) (z : Nat → Int) (w : World) (hr : Row1 w a n z) (hr' : Row1 w a' n z) (hn : n ≤ 9223372036854775807) :
    Calls Try.prog 47 #[.agg #[.bool o, .int .i64 n, .slice a n c], .agg #[.bool o, .int .i64 n, .slice a' n c']] w fun e w' => e = .returned (.bool true) ∧ Below w.heap.size w w' := by
  have HR : Hid (Row1 w a n z) := hr
  have HR' : Hid (Row1 w a' n z) := hr'
  clear hr hr'
  have ho : (o != o) = false := by simp
  have hx : ((n : Int) != (n : Int)) = false := by simp
  go_enter Try.func47, Try.ntmps47
  go_wp2_with fail
  generalize hW : (w.alloc _).alloc _ = W
  have bW : Below w.heap.size w W := by rw [← hW]; exact ((Below.refl _ _).alloc (Nat.le_refl _) _).alloc (by simp) _
  clear hW
  refine (eqIntS_same _ _ _ _ _ z _ (HR.out.below bW) (HR'.out.below bW) hn).mono ?_
  rintro e w1 ⟨rfl, hb1⟩
  have b1 := bW.trans (hb1.mono bW.size)
  clear hb1
  go_wp2
  go_ret
  exact ⟨rfl, b1⟩

set_option maxHeartbeats 1000000 in
theorem markRun_any (o : Bool) (a : Option Addr) (n cap g t m : Nat) (q : Int) (w : World) (hr : MRow w a n 1 g t m) (hn : n ≤ 100000000) (hq : 0 ≤ q) (hq' : q ≤ 1000000000) :
    Calls Try.prog 48 #[.agg #[.bool o, .int .i64 n, .slice a n cap], .int .i64 q] w fun e w' => e = .returned (.int .i64 (q + n)) ∧ Marked w' a n 1 g t m q ∧ w.grownBy w' (some g) := by
  have HR : Hid (MRow w a n 1 g t m) := hr
  clear hr
  go_enter Try.func48, Try.ntmps48
  go_wp2_with fail
  have g0 : w.grownBy (w.alloc (.cells #[.bool o, .int .i64 n, .slice a n cap] 57)) none := World.grownBy_alloc _ _ _
  refine (markIntS_any _ _ _ g t m q _ (HR.out.grown g0 (by simp)) hn hq hq').mono ?_
  rintro e w1 ⟨rfl, hm, hg1⟩
  have HM : Hid (Marked w1 a n 1 g t m q) := hm
  have hg3 : w.grownBy w1 (some g) := ⟨hg1.os.trans g0.os, hg1.tape.trans g0.tape, hg1.output.trans g0.output, Nat.le_trans g0.size hg1.size, fun i hi hne => (hg1.block i (Nat.lt_of_lt_of_le hi g0.size) hne).trans (g0.block i hi (by simp))⟩
  clear hm hg1
  go_wp2
  go_ret
  exact ⟨rfl, HM.out, hg3⟩

set_option maxHeartbeats 1000000 in
theorem heldRun_any (o : Bool) (a : Option Addr) (n cap g t m : Nat) (q : Int) (w : World) (hr : Marked w a n 1 g t m q) (hn : n ≤ 100000000) (hq : 0 ≤ q) (hq' : q ≤ 1000000000) :
    Calls Try.prog 49 #[.agg #[.bool o, .int .i64 n, .slice a n cap], .int .i64 q] w fun e w' => e = .returned (.int .i64 (q + n)) ∧ Below w.heap.size w w' := by
  have HR : Hid (Marked w a n 1 g t m q) := hr
  clear hr
  go_enter Try.func49, Try.ntmps49
  go_wp2_with fail
  refine (heldIntS_any _ _ _ g t m q _ (HR.out.below ((Below.refl _ _).alloc (Nat.le_refl _) _)) hn hq hq').mono ?_
  rintro e w1 ⟨rfl, rfl⟩
  go_wp2
  go_ret
  exact ⟨rfl, (Below.refl _ _).alloc (Nat.le_refl _) _⟩

/-- What Fastest answers lies in a box. -/
structure RBox (w : World) (b : Nat) (o : Bool) (a : Option Addr) (n c : Nat) : Prop where
  c0 : w.cell? ⟨b, 0, none⟩ = some (.bool o)
  c1 : w.cell? ⟨b, 1, none⟩ = some (.int .i64 n)
  c2 : w.cell? ⟨b, 2, none⟩ = some (.slice a n c)
theorem RBox.lt {w : World} {b : Nat} {o : Bool} {a : Option Addr} {n c : Nat} (h : RBox w b o a n c) : b < w.heap.size := by
  have := h.c0
  rcases Nat.lt_or_ge b w.heap.size with k | k
  · exact k
  · simp [World.cell?, Array.getElem?_eq_none k] at this
theorem RBox.below {w w1 : World} {B b : Nat} {o : Bool} {a : Option Addr} {n c : Nat} (h : RBox w b o a n c) (hb : Below B w w1) (hB : b < B) : RBox w1 b o a n c :=
  ⟨by rw [hb.cell hB]; exact h.c0, by rw [hb.cell hB]; exact h.c1, by rw [hb.cell hB]; exact h.c2⟩
theorem RBox.grown {w w1 : World} {row : Option Nat} {b : Nat} {o : Bool} {a : Option Addr} {n c : Nat} (h : RBox w b o a n c) (hg : w.grownBy w1 row) (hr : some b ≠ row) : RBox w1 b o a n c :=
  have e := hg.block b h.lt hr
  ⟨(World.cell?_of_block (a := ⟨b, 0, none⟩) e).trans h.c0, (World.cell?_of_block (a := ⟨b, 1, none⟩) e).trans h.c1, (World.cell?_of_block (a := ⟨b, 2, none⟩) e).trans h.c2⟩
end Go.Proofs.Yteodefmpkljedab
