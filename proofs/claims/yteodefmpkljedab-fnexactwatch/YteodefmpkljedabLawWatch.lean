/-
  The laws' helpers on what Watch answers: eqWatched, markWatched, heldWatched.
-/
import Derived.Test.YteodefmpkljedabLawInts
namespace Go.Proofs.Yteodefmpkljedab
open Go.RowKit
set_option linter.unusedVariables false
set_option linter.unusedSimpArgs false

set_option maxHeartbeats 1000000 in
theorem eqWatched_same (o : Bool) (a a' : Option Addr) (n c c' : Nat) (z : Nat → Int) (x y : Int) (w : World) (hr : Row1 w a n z) (hr' : Row1 w a' n z) (hn : n ≤ 9223372036854775807) :
    Calls Try.prog 40 #[.agg #[.bool o, .slice a n c, .int .i64 x, .int .i64 y], .agg #[.bool o, .slice a' n c', .int .i64 x, .int .i64 y]] w fun e w' => e = .returned (.bool true) ∧ Below w.heap.size w w' := by
  have HR : Hid (Row1 w a n z) := hr
  have HR' : Hid (Row1 w a' n z) := hr'
  clear hr hr'
  have ho : (o != o) = false := by simp
  have hx : (x != x) = false := by simp
  have hy : (y != y) = false := by simp
  go_enter Try.func40, Try.ntmps40
  go_wp2_with fail
  generalize hW : (w.alloc _).alloc _ = W
  have bW : Below w.heap.size w W := by rw [← hW]; exact ((Below.refl _ _).alloc (Nat.le_refl _) _).alloc (by simp) _
  have sW : W.heap.size = w.heap.size + 2 := by rw [← hW]; simp
  have c2 : W.cell? ⟨w.heap.size, 2, none⟩ = some (.int .i64 x) := by subst hW; go_simp
  have c3 : W.cell? ⟨w.heap.size, 3, none⟩ = some (.int .i64 y) := by subst hW; go_simp
  have d2 : W.cell? ⟨w.heap.size + 1, 2, none⟩ = some (.int .i64 x) := by subst hW; go_simp
  have d3 : W.cell? ⟨w.heap.size + 1, 3, none⟩ = some (.int .i64 y) := by subst hW; go_simp
  clear hW
  refine (eqIntS_same _ _ _ _ _ z _ (HR.out.below bW) (HR'.out.below bW) hn).mono ?_
  rintro e w1 ⟨rfl, hb1⟩
  rw [← hb1.cell (by simp; omega)] at c2 c3 d2 d3
  have b1 := bW.trans (hb1.mono bW.size)
  clear hb1
  go_wp2
  go_ret
  exact ⟨rfl, b1⟩

set_option maxHeartbeats 1000000 in
theorem markWatched_any (o : Bool) (a : Option Addr) (n cap g t m : Nat) (x y q : Int) (w : World) (hr : MRow w a n 1 g t m) (hn : n ≤ 100000000) (hq : 0 ≤ q) (hq' : q ≤ 1000000000) :
    Calls Try.prog 43 #[.agg #[.bool o, .slice a n cap, .int .i64 x, .int .i64 y], .int .i64 q] w fun e w' => e = .returned (.int .i64 (q + n)) ∧ Marked w' a n 1 g t m q ∧ w.grownBy w' (some g) := by
  have HR : Hid (MRow w a n 1 g t m) := hr
  clear hr
  go_enter Try.func43, Try.ntmps43
  go_wp2_with fail
  have g0 : w.grownBy (w.alloc (.cells #[.bool o, .slice a n cap, .int .i64 x, .int .i64 y] 48)) none := World.grownBy_alloc _ _ _
  refine (markIntS_any _ _ _ g t m q _ (HR.out.grown g0 (by simp)) hn hq hq').mono ?_
  rintro e w1 ⟨rfl, hm, hg1⟩
  have HM : Hid (Marked w1 a n 1 g t m q) := hm
  have hg3 : w.grownBy w1 (some g) := ⟨hg1.os.trans g0.os, hg1.tape.trans g0.tape, hg1.output.trans g0.output, Nat.le_trans g0.size hg1.size, fun i hi hne => (hg1.block i (Nat.lt_of_lt_of_le hi g0.size) hne).trans (g0.block i hi (by simp))⟩
  clear hm hg1
  go_wp2
  go_ret
  exact ⟨rfl, HM.out, hg3⟩

set_option maxHeartbeats 1000000 in
theorem heldWatched_any (o : Bool) (a : Option Addr) (n cap g t m : Nat) (x y q : Int) (w : World) (hr : Marked w a n 1 g t m q) (hn : n ≤ 100000000) (hq : 0 ≤ q) (hq' : q ≤ 1000000000) :
    Calls Try.prog 44 #[.agg #[.bool o, .slice a n cap, .int .i64 x, .int .i64 y], .int .i64 q] w fun e w' => e = .returned (.int .i64 (q + n)) ∧ Below w.heap.size w w' := by
  have HR : Hid (Marked w a n 1 g t m q) := hr
  clear hr
  go_enter Try.func44, Try.ntmps44
  go_wp2_with fail
  refine (heldIntS_any _ _ _ g t m q _ (HR.out.below ((Below.refl _ _).alloc (Nat.le_refl _) _)) hn hq hq').mono ?_
  rintro e w1 ⟨rfl, rfl⟩
  go_wp2
  go_ret
  exact ⟨rfl, (Below.refl _ _).alloc (Nat.le_refl _) _⟩

/-- What Watch answers lies in a box. -/
structure WBox (w : World) (b : Nat) (o : Bool) (a : Option Addr) (n c : Nat) (x y : Int) : Prop where
  c0 : w.cell? ⟨b, 0, none⟩ = some (.bool o)
  c1 : w.cell? ⟨b, 1, none⟩ = some (.slice a n c)
  c2 : w.cell? ⟨b, 2, none⟩ = some (.int .i64 x)
  c3 : w.cell? ⟨b, 3, none⟩ = some (.int .i64 y)
theorem WBox.lt {w : World} {b : Nat} {o : Bool} {a : Option Addr} {n c : Nat} {x y : Int} (h : WBox w b o a n c x y) : b < w.heap.size := by
  have := h.c0
  rcases Nat.lt_or_ge b w.heap.size with k | k
  · exact k
  · simp [World.cell?, Array.getElem?_eq_none k] at this
theorem WBox.below {w w1 : World} {B b : Nat} {o : Bool} {a : Option Addr} {n c : Nat} {x y : Int} (h : WBox w b o a n c x y) (hb : Below B w w1) (hB : b < B) : WBox w1 b o a n c x y :=
  ⟨by rw [hb.cell hB]; exact h.c0, by rw [hb.cell hB]; exact h.c1, by rw [hb.cell hB]; exact h.c2, by rw [hb.cell hB]; exact h.c3⟩
theorem WBox.grown {w w1 : World} {row : Option Nat} {b : Nat} {o : Bool} {a : Option Addr} {n c : Nat} {x y : Int} (h : WBox w b o a n c x y) (hg : w.grownBy w1 row) (hr : some b ≠ row) : WBox w1 b o a n c x y :=
  have e := hg.block b h.lt hr
  ⟨(World.cell?_of_block (a := ⟨b, 0, none⟩) e).trans h.c0, (World.cell?_of_block (a := ⟨b, 1, none⟩) e).trans h.c1, (World.cell?_of_block (a := ⟨b, 2, none⟩) e).trans h.c2, (World.cell?_of_block (a := ⟨b, 3, none⟩) e).trans h.c3⟩
end Go.Proofs.Yteodefmpkljedab
