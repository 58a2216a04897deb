/-
  The laws' helpers on rows of numbers: copies, comparisons; what is watched.
-/
import Derived.Test.YteodefmpkljedabLawMark2
import Derived.Test.YteodefmpkljedabOpenProf
import Derived.Deep.QuietTactic
import Derived.BigQuiet
namespace Go.Proofs.Yteodefmpkljedab
open Go.RowKit Go.Sort Go.ChangeShapes Go.WideShapes Go.Deep
set_option linter.unusedVariables false
set_option linter.unusedSimpArgs false

theorem Try.infoIntL : (Try.prog.info? 3).map (fun i => (i.zero, i.size, i.bytes)) = some (some (.int .i64 0), 1, 8) := by kernel_rfl
def col1 (z : Nat → Int) (i : Nat) : Value := .int .i64 (z i)
theorem row1_of {w : World} {g t n : Nat} {z : Nat → Int} (h : w.rowIs g t n (col1 z)) : Row1 w (some ⟨g, 0, none⟩) n z := Or.inr ⟨g, 0, rfl, h.lt, fun j hj => by rw [Nat.zero_add]; exact h.cell hj⟩

set_option maxHeartbeats 1000000 in
theorem toIntS_any (a : Option Addr) (n c : Nat) (z : Nat → Int) (w : World) (hr : Row1 w a n z) (hn : n ≤ 1048576) :
    Calls Try.prog 38 #[.slice a n c] w fun e w' => ∃ g, e = .returned (.slice (some ⟨g, 0, none⟩) n n) ∧ w.heap.size ≤ g ∧ w'.rowIs g 3 n (col1 z) ∧ Below w.heap.size w w' := by
  have HR : Hid (Row1 w a n z) := hr
  clear hr
  obtain ⟨i0, hi, hz0, hz1, hz2⟩ := info_parts Try.infoIntL
  have hmk : ∀ w : World, (Instr.makeSlice 46 (.int .i64 (n : Int)) (.int .i64 (n : Int))).run Try.prog w = .ok (.slice (some ⟨w.heap.size, 0, none⟩) n n) (w.alloc (.cells (madeCells #[.int .i64 0] n) 3)) := by
    intro w
    have := run_make (P := Try.prog) w 46 3 i0 _ Try.underlying46 hi hz0 .i64 .i64 n n (by omega) (by omega) (by rw [hz2]; omega) (by omega)
    simpa [hz1, Value.cells] using this
  go_enter Try.func38, Try.ntmps38
  go_wp2
  go_loopw [4] (fun i wr => ∃ k : Nat, k ≤ n ∧ i = .int .i64 k ∧ Hid (∃ f, wr.rowIs w.heap.size 3 n f ∧ ∀ j, j < k → f j = col1 z j) ∧ Below w.heap.size w wr) (fun i _ => n - (intOf i).toNat)
  case atStart =>
    have := rowIs_zeros w #[.int .i64 0] n 3
    exact ⟨0, Nat.zero_le _, rfl, ⟨_, this, fun j hj => by omega⟩, (Below.refl _ _).alloc (Nat.le_refl _) _⟩
  case round =>
    obtain ⟨k, hk, rfl, HF, hbel⟩ := hrel
    by_cases hlt : k < n
    · rcases HR.out with h0 | ⟨b, off, rfl, hb, hc⟩
      · omega
      · have c0 : wr.cell? ⟨b, off + k, none⟩ = some (.int .i64 (z k)) := by rw [hbel.cell hb]; exact hc k hlt
        obtain ⟨f, hrow, hf⟩ := HF.out
        have d0 := hrow.cell (i := k) hlt
        have f0 := hrow.frozen k
        have HROW : Hid (wr.rowIs w.heap.size 3 n f ∧ ∀ j, j < k → f j = col1 z j) := ⟨hrow, hf⟩
        clear hc hrow hf HF
        go_wp2
        go_roundw
        case rel =>
          refine ⟨k + 1, by omega, by go_num, ⟨_, HROW.out.1.set _ _, fun j hj => ?_⟩, hbel.setCell (Nat.le_refl _) _⟩
          by_cases cjk : j = k
          · subst cjk; simp [col1]
          · simp [cjk]; exact HROW.out.2 j (by omega)
        case measure => simp [intOf]; omega
    · have e : k = n := by omega
      subst e
      obtain ⟨f, hrow, hf⟩ := HF.out
      go_wp2
      go_ret
      exact ⟨_, rfl, Nat.le_refl _, hrow.congr fun i hi => hf i hi, hbel⟩

set_option maxHeartbeats 1000000 in
theorem eqIntS_same (a a' : Option Addr) (n c c' : Nat) (z : Nat → Int) (w : World) (hr : Row1 w a n z) (hr' : Row1 w a' n z) (hn : n ≤ 9223372036854775807) :
    Calls Try.prog 41 #[.slice a n c, .slice a' n c'] w fun e w' => e = .returned (.bool true) ∧ Below w.heap.size w w' := by
  have HR : Hid (Row1 w a n z) := hr
  have HR' : Hid (Row1 w a' n z) := hr'
  clear hr hr'
  go_enter Try.func41, Try.ntmps41
  go_wp2
  go_loopw [5] (fun i wr => ∃ k : Nat, k ≤ n ∧ i = .int .i64 k ∧ Below w.heap.size w wr) (fun i _ => n - (intOf i).toNat)
  case atStart => exact ⟨0, Nat.zero_le _, rfl, Below.refl _ _⟩
  case round =>
    obtain ⟨k, hk, rfl, hbel⟩ := hrel
    by_cases hlt : k < n
    · rcases HR.out with h0 | ⟨b, off, rfl, hb, hc⟩
      · omega
      rcases HR'.out with h0 | ⟨d, off', rfl, gb, hc'⟩
      · omega
      · have c0 : wr.cell? ⟨b, off + k, none⟩ = some (.int .i64 (z k)) := by rw [hbel.cell hb]; exact hc k hlt
        have d0 : wr.cell? ⟨d, off' + k, none⟩ = some (.int .i64 (z k)) := by rw [hbel.cell gb]; exact hc' k hlt
        have hne : (z k != z k) = false := by simp
        have i0 : (0 : Int) ≤ (k : Int) := by omega
        have i1 : (k : Int) < (n : Int) := by omega
        clear hc hc'
        go_wp2
        go_quiet (fail)
        go_wp2
        go_roundw
        case rel => exact ⟨k + 1, by omega, by go_num, ⟨hbel.os, hbel.tape, hbel.output, hbel.size, hbel.block⟩⟩
        case measure => simp [intOf]; omega
    · go_wp2
      go_ret
      exact ⟨rfl, hbel⟩

section
variable {H : Type} {enc : TypeId × Value → H} {P : Program} {w : World} {base : Nat} {spare : Nat → Bool} {held : Bool}
theorem open_row1 {t e : TypeId} {fuel : Nat} {v : Value} {x : DataW H × List MemPlace} (ht : P.underlying t = some (.slice e)) (he : P.underlying e = some (.int .i64)) (ce : P.cellsOf e = 1)
    (h : DataW.trod enc P w base spare held fuel t [v] = some x) : ∃ a n c z, v = .slice a n c ∧ n ≤ 9223372036854775807 ∧ Row1 w a n z := by
  rcases open_slice ht h with ⟨h0, _⟩ | ⟨a, len, cap, m, n, D, Pl, hcs, hb, hl, hm, hmm, _, hx⟩
  · simp at h0
    exact ⟨none, 0, 0, fun _ => 0, h0, by omega, Or.inl rfl⟩
  · simp at hcs
    have hlm : len ≤ m := by rw [hmm]; split <;> omega
    have each : ∀ i, i < len → ∃ x : Int, w.cell? (a.add i) = some (.int .i64 x) := by
      intro i hi
      obtain ⟨cs', h1, h2⟩ := hx i (by omega)
      rw [ce, Nat.mul_one] at h1
      obtain ⟨_, hlen, hcell⟩ := World.cells?_some h1
      match cs', hlen with
      | [v0], _ =>
        obtain ⟨q0, e0, _, _⟩ := DataW.trod_int he h2
        simp at e0
        have k0 := hcell 0 (by omega)
        rw [add_add] at k0
        exact ⟨q0, by simpa [e0] using k0⟩
    refine ⟨some a, len, cap, fun i => intOf ((w.cell? (a.add i)).getD (.int .i64 0)), hcs, by unfold maxLen at hm; omega, ?_⟩
    by_cases hz : len = 0
    · exact Or.inl hz
    · obtain ⟨x0, hx0⟩ := each 0 (by omega)
      have ha := cell_spot hx0
      have hlt : a.block < w.heap.size := by have := World.block_lt_of_cell? _ _ hx0; rw [ha, add_plain] at this; exact this
      refine Or.inr ⟨a.block, a.off, by rw [← ha], hlt, fun j hj => ?_⟩
      obtain ⟨x, e1⟩ := each j hj
      dsimp only
      rw [e1]
      rw [ha, add_plain] at e1
      simpa [intOf] using e1
end

set_option maxRecDepth 100000 in
/-- The argument is a row of numbers. -/
theorem open_intS {H : Type} {enc : TypeId × Value → H} {w : World} {base : Nat} {spare : Nat → Bool} {held : Bool} {r : Reach} {b0 : Nat} {v : Value} {d : DataW H} {p : List MemPlace}
    (hv : Value.okWide Try.prog w r b0 46 v) (h : DataW.Trod enc Try.prog w base spare held 46 v d p) : ∃ a n c z, v = .slice a n c ∧ n ≤ 9223372036854775807 ∧ Row1 w a n z := by
  obtain ⟨a, n, c, rfl⟩ := okWide_slice Try.underlying46 hv
  obtain ⟨fuel, hf⟩ := h
  exact open_row1 Try.underlying46 Try.underlying3 Try.cellsInt hf

end Go.Proofs.Yteodefmpkljedab
