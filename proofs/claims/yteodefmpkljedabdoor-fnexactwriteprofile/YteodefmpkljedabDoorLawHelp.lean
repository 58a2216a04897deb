/-
  The laws' own helpers: sizes, copies, comparisons of profiles.
-/
import Derived.Test.YteodefmpkljedabDoorProg
import Derived.Test.YteodefmpkljedabDoorProf
import Derived.Test.YteodefmpkljedabDoorSpecSlow
import Derived.KernelRfl
import Derived.Deep.OwnRows
namespace Go.Proofs.YteodefmpkljedabDoor
open Go.RowKit
set_option linter.unusedVariables false

theorem Tryd.infoPiece : (Tryd.prog.info? 39).map (fun i => (i.zero, i.size, i.bytes)) = some (some (.agg #[.int .i64 0, .int .i64 0]), 2, 16) := by kernel_rfl
theorem Tryd.infoZone : (Tryd.prog.info? 42).map (fun i => (i.zero, i.size, i.bytes)) = some (some (.agg #[.int .i64 0, .int .i64 0, .int .i64 0]), 3, 24) := by kernel_rfl

/-- Pairs, triples in a row of cells. -/
def col2 (L B : Nat → Int) (i : Nat) : Value := .int .i64 (if i % 2 = 0 then L (i / 2) else B (i / 2))
def col3 (F T S : Nat → Int) (i : Nat) : Value := .int .i64 (if i % 3 = 0 then F (i / 3) else if i % 3 = 1 then T (i / 3) else S (i / 3))
theorem col2_0 (L B : Nat → Int) (j : Nat) : col2 L B (j * 2) = .int .i64 (L j) := by unfold col2; rw [if_pos (by omega), show j * 2 / 2 = j by omega]
theorem col2_1 (L B : Nat → Int) (j : Nat) : col2 L B (j * 2 + 1) = .int .i64 (B j) := by unfold col2; rw [if_neg (by omega), show (j * 2 + 1) / 2 = j by omega]
theorem col3_0 (F T S : Nat → Int) (j : Nat) : col3 F T S (j * 3) = .int .i64 (F j) := by unfold col3; rw [if_pos (by omega), show j * 3 / 3 = j by omega]
theorem col3_1 (F T S : Nat → Int) (j : Nat) : col3 F T S (j * 3 + 1) = .int .i64 (T j) := by unfold col3; rw [if_neg (by omega), if_pos (by omega), show (j * 3 + 1) / 3 = j by omega]
theorem col3_2 (F T S : Nat → Int) (j : Nat) : col3 F T S (j * 3 + 2) = .int .i64 (S j) := by unfold col3; rw [if_neg (by omega), if_neg (by omega), show (j * 3 + 2) / 3 = j by omega]
theorem row2_of {w : World} {g t n : Nat} {L B : Nat → Int} (h : w.rowIs g t (n * 2) (col2 L B)) : Row2 w (some ⟨g, 0, none⟩) n L B :=
  Or.inr ⟨g, 0, rfl, h.lt, fun j hj => ⟨by rw [Nat.zero_add, h.cell (by omega), col2_0], by rw [Nat.zero_add, h.cell (by omega), col2_1]⟩⟩
theorem row3_of {w : World} {g t n : Nat} {F T S : Nat → Int} (h : w.rowIs g t (n * 3) (col3 F T S)) : Row3 w (some ⟨g, 0, none⟩) n F T S :=
  Or.inr ⟨g, 0, rfl, h.lt, fun j hj => ⟨by rw [Nat.zero_add, h.cell (by omega), col3_0], by rw [Nat.zero_add, h.cell (by omega), col3_1], by rw [Nat.zero_add, h.cell (by omega), col3_2]⟩⟩
theorem rowIs_below {w w1 : World} {g t n : Nat} {f : Nat → Value} (h : w.rowIs g t n f) (hb : Below w.heap.size w w1) : w1.rowIs g t n f := h.of_block (hb.block g h.lt)
theorem rowIs_zeros (w : World) (z : Array Value) (n t : Nat) : (w.alloc (.cells (madeCells z n) t)).rowIs w.heap.size t n (fun i => z[i % z.size]!) := by
  have := World.rowIs_alloc w (madeCells z n) t (fun i => z[i % z.size]!) (fun i hi => by rw [size_madeCells] at hi; simp [madeCells, hi])
  rwa [size_madeCells] at this

theorem set2 {w : World} {g t n k : Nat} {f : Nat → Value} {L B : Nat → Int} (h : w.rowIs g t (n * 2) f) (hf : ∀ j, j < k * 2 → f j = col2 L B j) :
    ∃ f', ((w.setCell ⟨g, k * 2, none⟩ (.int .i64 (L k))).setCell ⟨g, k * 2 + 1, none⟩ (.int .i64 (B k))).rowIs g t (n * 2) f' ∧ ∀ j, j < (k + 1) * 2 → f' j = col2 L B j := by
  refine ⟨_, (h.set _ _).set _ _, fun j hj => ?_⟩
  show (if j = k * 2 + 1 then _ else if j = k * 2 then _ else f j) = _
  by_cases c1 : j = k * 2 + 1
  · rw [if_pos c1, c1, col2_1]
  · by_cases c0 : j = k * 2
    · rw [if_neg c1, if_pos c0, c0, col2_0]
    · rw [if_neg c1, if_neg c0]; exact hf j (by omega)
theorem set3 {w : World} {g t n k : Nat} {f : Nat → Value} {F T S : Nat → Int} (h : w.rowIs g t (n * 3) f) (hf : ∀ j, j < k * 3 → f j = col3 F T S j) :
    ∃ f', (((w.setCell ⟨g, k * 3, none⟩ (.int .i64 (F k))).setCell ⟨g, k * 3 + 1, none⟩ (.int .i64 (T k))).setCell ⟨g, k * 3 + 2, none⟩ (.int .i64 (S k))).rowIs g t (n * 3) f' ∧ ∀ j, j < (k + 1) * 3 → f' j = col3 F T S j := by
  refine ⟨_, ((h.set _ _).set _ _).set _ _, fun j hj => ?_⟩
  show (if j = k * 3 + 2 then _ else if j = k * 3 + 1 then _ else if j = k * 3 then _ else f j) = _
  by_cases c2 : j = k * 3 + 2
  · rw [if_pos c2, c2, col3_2]
  · by_cases c1 : j = k * 3 + 1
    · rw [if_neg c2, if_pos c1, c1, col3_1]
    · by_cases c0 : j = k * 3
      · rw [if_neg c2, if_neg c1, if_pos c0, c0, col3_0]
      · rw [if_neg c2, if_neg c1, if_neg c0]; exact hf j (by omega)

theorem szPieceS_any (a : Option Addr) (n c : Nat) (left : Int) (w : World) (hn : n ≤ 9223372036854775807) (h0 : 0 ≤ left) (h1 : left ≤ 1048576) :
    Calls Tryd.prog 9 #[.slice a n c, .int .i64 left] w fun e w' => e = .returned (.int .i64 (if left < n then -1 else left - n)) ∧ w' = w := by
  by_cases h : left < n
  · rw [if_pos h]
    go_enter Tryd.func9, Tryd.ntmps9
    go_wp2
    go_ret
    exact ⟨rfl, rfl⟩
  · rw [if_neg h]
    go_enter Tryd.func9, Tryd.ntmps9
    go_wp2
    go_ret
    exact ⟨rfl, rfl⟩

theorem szZoneS_any (a : Option Addr) (n c : Nat) (left : Int) (w : World) (hn : n ≤ 9223372036854775807) (h0 : 0 ≤ left) (h1 : left ≤ 1048576) :
    Calls Tryd.prog 10 #[.slice a n c, .int .i64 left] w fun e w' => e = .returned (.int .i64 (if left < n then -1 else left - n)) ∧ w' = w := by
  by_cases h : left < n
  · rw [if_pos h]
    go_enter Tryd.func10, Tryd.ntmps10
    go_wp2
    go_ret
    exact ⟨rfl, rfl⟩
  · rw [if_neg h]
    go_enter Tryd.func10, Tryd.ntmps10
    go_wp2
    go_ret
    exact ⟨rfl, rfl⟩

/-- Too great: the law says nothing. -/
theorem szProfile_no (P : Prof) (v : Value) (w : World) (hl : P.Lies w v) (h : 1048576 < P.np + P.nz) :
    Calls Tryd.prog 4 #[v, .int .i64 1048576] w fun e w' => e = .returned (.int .i64 (-1)) ∧ Below w.heap.size w w' := by
  obtain ⟨ap, cp, az, cz, rfl, hn, hn', hr2, hr3⟩ := hl
  clear hr2 hr3
  by_cases h1 : 1048576 < P.np
  · go_enter Tryd.func4, Tryd.ntmps4
    go_wp2_with (first | (go_at_call 9; refine (szPieceS_any _ _ _ _ _ hn.1 (by omega) (by omega)).mono ?_; rintro e w' ⟨rfl, rfl⟩; rw [if_pos (by omega)]))
    go_ret
    exact ⟨rfl, (Below.refl _ _).alloc (Nat.le_refl _) _⟩
  · go_enter Tryd.func4, Tryd.ntmps4
    go_wp2_with (first | (go_at_call 9; refine (szPieceS_any _ _ _ _ _ hn.1 (by omega) (by omega)).mono ?_; rintro e w' ⟨rfl, rfl⟩; rw [if_neg (by omega)]) | (go_at_call 10; refine (szZoneS_any _ _ _ _ _ hn' (by omega) (by omega)).mono ?_; rintro e w' ⟨rfl, rfl⟩; rw [if_pos (by omega)]))
    go_ret
    exact ⟨rfl, (Below.refl _ _).alloc (Nat.le_refl _) _⟩

theorem szProfile_yes (P : Prof) (v : Value) (w : World) (hl : P.Lies w v) (h : P.np + P.nz ≤ 1048576) :
    Calls Tryd.prog 4 #[v, .int .i64 1048576] w fun e w' => ∃ m : Int, e = .returned (.int .i64 m) ∧ 0 ≤ m ∧ m ≤ 1048576 ∧ Below w.heap.size w w' := by
  obtain ⟨ap, cp, az, cz, rfl, hn, hn', hr2, hr3⟩ := hl
  clear hr2 hr3
  go_enter Tryd.func4, Tryd.ntmps4
  go_wp2_with (first | (go_at_call 9; refine (szPieceS_any _ _ _ _ _ hn.1 (by omega) (by omega)).mono ?_; rintro e w' ⟨rfl, rfl⟩; rw [if_neg (by omega)]) | (go_at_call 10; refine (szZoneS_any _ _ _ _ _ hn' (by omega) (by omega)).mono ?_; rintro e w' ⟨rfl, rfl⟩; rw [if_neg (by omega)]))
  go_ret
  exact ⟨_, rfl, by omega, by omega, (Below.refl _ _).alloc (Nat.le_refl _) _⟩

theorem toPiece_any (l b : Int) (w : World) :
    Calls Tryd.prog 22 #[.agg #[.int .i64 l, .int .i64 b]] w fun e w' => e = .returned (.agg #[.int .i64 l, .int .i64 b]) ∧ Below w.heap.size w w' := by
  go_enter Tryd.func22, Tryd.ntmps22
  go_wp2
  refine bodyPost_ret (v := .agg #[.int .i64 l, .int .i64 b]) (by simp [results, Tryd.results22, go_sem]) rfl ⟨rfl, ?_⟩
  exact (((Below.refl _ _).alloc (Nat.le_refl _) _).alloc (by simp) _).alloc (by simp; omega) _

theorem toZone_any (f t s : Int) (w : World) :
    Calls Tryd.prog 23 #[.agg #[.int .i64 f, .int .i64 t, .int .i64 s]] w fun e w' => e = .returned (.agg #[.int .i64 f, .int .i64 t, .int .i64 s]) ∧ Below w.heap.size w w' := by
  go_enter Tryd.func23, Tryd.ntmps23
  go_wp2
  refine bodyPost_ret (v := .agg #[.int .i64 f, .int .i64 t, .int .i64 s]) (by simp [results, Tryd.results23, go_sem]) rfl ⟨rfl, ?_⟩
  exact (((Below.refl _ _).alloc (Nat.le_refl _) _).alloc (by simp) _).alloc (by simp; omega) _

set_option maxHeartbeats 1000000 in
theorem toPieceS_any (a : Option Addr) (n c : Nat) (L B : Nat → Int) (w : World) (hr : Row2 w a n L B) (hn : n ≤ 1048576) :
    Calls Tryd.prog 13 #[.slice a n c] w fun e w' => ∃ g, e = .returned (.slice (some ⟨g, 0, none⟩) n n) ∧ w.heap.size ≤ g ∧ w'.rowIs g 39 (n * 2) (col2 L B) ∧ Below w.heap.size w w' := by
  have HR : Hid (Row2 w a n L B) := hr
  clear hr
  obtain ⟨i0, hi, hz0, hz1, hz2⟩ := info_parts Tryd.infoPiece
  have hmk : ∀ w : World, (Instr.makeSlice 28 (.int .i64 (n : Int)) (.int .i64 (n : Int))).run Tryd.prog w = .ok (.slice (some ⟨w.heap.size, 0, none⟩) n n) (w.alloc (.cells (madeCells #[.int .i64 0, .int .i64 0] (n * 2)) 39)) := by
    intro w
    have := run_make (P := Tryd.prog) w 28 39 i0 _ Tryd.underlying28 hi hz0 .i64 .i64 n n (by omega) (by omega) (by rw [hz2]; omega) (by omega)
    simpa [hz1, Value.cells] using this
  go_enter Tryd.func13, Tryd.ntmps13
  go_wp2
  go_loopw [4] (fun i wr => ∃ k : Nat, k ≤ n ∧ i = .int .i64 k ∧ (∃ f, wr.rowIs w.heap.size 39 (n * 2) f ∧ ∀ j, j < k * 2 → f j = col2 L B j) ∧ Below w.heap.size w wr) (fun i _ => n - (intOf i).toNat)
  case atStart => exact ⟨0, Nat.zero_le _, rfl, ⟨_, rowIs_zeros _ _ _ _, fun j hj => by omega⟩, (Below.refl _ _).alloc (Nat.le_refl _) _⟩
  case round =>
    obtain ⟨k, hk, rfl, ⟨f, hrow, hf⟩, hbel⟩ := hrel
    have HF : Hid (∀ j, j < k * 2 → f j = col2 L B j) := hf
    clear hf
    by_cases hlt : k < n
    · rcases HR.out with h0 | ⟨b, off, rfl, hb, hc⟩
      · omega
      · obtain ⟨h0, h1⟩ := hc k hlt
        have c0 : wr.cell? ⟨b, off + k * 2, none⟩ = some (.int .i64 (L k)) := by rw [hbel.cell hb]; exact h0
        have c1 : wr.cell? ⟨b, off + k * 2 + 1, none⟩ = some (.int .i64 (B k)) := by rw [hbel.cell hb]; exact h1
        clear hc h0 h1
        have HW : Hid (wr.rowIs w.heap.size 39 (n * 2) f) := hrow
        clear hrow
        go_wp2_with (first | (go_at_call 22; refine (toPiece_any _ _ _).mono ?_; rintro e w2 ⟨rfl, hb2⟩; have hrow2 := rowIs_below HW.out hb2; have d0 := hrow2.cell (i := k * 2) (by omega); have z0 := hrow2.frozen (k * 2); have d1 := hrow2.cell (i := k * 2 + 1) (by omega); have z1 := hrow2.frozen (k * 2 + 1); have HW2 : Hid (w2.rowIs w.heap.size 39 (n * 2) f) := hrow2; clear hrow2))
        go_roundw
        case rel =>
          exact ⟨k + 1, by omega, by go_num, set2 HW2.out HF.out, ((hbel.trans (hb2.mono hbel.size)).setCell (Nat.le_refl _) _).setCell (Nat.le_refl _) _⟩
        case measure => simp [intOf]; omega
    · have e : k = n := by omega
      subst e
      go_wp2
      go_ret
      exact ⟨_, rfl, Nat.le_refl _, hrow.congr fun i hi => HF.out i hi, hbel⟩

set_option maxHeartbeats 1000000 in
theorem toZoneS_any (a : Option Addr) (n c : Nat) (F T S : Nat → Int) (w : World) (hr : Row3 w a n F T S) (hn : n ≤ 1048576) :
    Calls Tryd.prog 14 #[.slice a n c] w fun e w' => ∃ g, e = .returned (.slice (some ⟨g, 0, none⟩) n n) ∧ w.heap.size ≤ g ∧ w'.rowIs g 42 (n * 3) (col3 F T S) ∧ Below w.heap.size w w' := by
  have HR : Hid (Row3 w a n F T S) := hr
  clear hr
  obtain ⟨i0, hi, hz0, hz1, hz2⟩ := info_parts Tryd.infoZone
  have hmk : ∀ w : World, (Instr.makeSlice 29 (.int .i64 (n : Int)) (.int .i64 (n : Int))).run Tryd.prog w = .ok (.slice (some ⟨w.heap.size, 0, none⟩) n n) (w.alloc (.cells (madeCells #[.int .i64 0, .int .i64 0, .int .i64 0] (n * 3)) 42)) := by
    intro w
    have := run_make (P := Tryd.prog) w 29 42 i0 _ Tryd.underlying29 hi hz0 .i64 .i64 n n (by omega) (by omega) (by rw [hz2]; omega) (by omega)
    simpa [hz1, Value.cells] using this
  go_enter Tryd.func14, Tryd.ntmps14
  go_wp2
  go_loopw [4] (fun i wr => ∃ k : Nat, k ≤ n ∧ i = .int .i64 k ∧ (∃ f, wr.rowIs w.heap.size 42 (n * 3) f ∧ ∀ j, j < k * 3 → f j = col3 F T S j) ∧ Below w.heap.size w wr) (fun i _ => n - (intOf i).toNat)
  case atStart => exact ⟨0, Nat.zero_le _, rfl, ⟨_, rowIs_zeros _ _ _ _, fun j hj => by omega⟩, (Below.refl _ _).alloc (Nat.le_refl _) _⟩
  case round =>
    obtain ⟨k, hk, rfl, ⟨f, hrow, hf⟩, hbel⟩ := hrel
    have HF : Hid (∀ j, j < k * 3 → f j = col3 F T S j) := hf
    clear hf
    by_cases hlt : k < n
    · rcases HR.out with h0 | ⟨b, off, rfl, hb, hc⟩
      · omega
      · obtain ⟨h0, h1, h2⟩ := hc k hlt
        have c0 : wr.cell? ⟨b, off + k * 3, none⟩ = some (.int .i64 (F k)) := by rw [hbel.cell hb]; exact h0
        have c1 : wr.cell? ⟨b, off + k * 3 + 1, none⟩ = some (.int .i64 (T k)) := by rw [hbel.cell hb]; exact h1
        have c2 : wr.cell? ⟨b, off + k * 3 + 2, none⟩ = some (.int .i64 (S k)) := by rw [hbel.cell hb]; exact h2
        clear hc h0 h1 h2
        have HW : Hid (wr.rowIs w.heap.size 42 (n * 3) f) := hrow
        clear hrow
        go_wp2_with (first | (go_at_call 23; refine (toZone_any _ _ _ _).mono ?_; rintro e w2 ⟨rfl, hb2⟩; have hrow2 := rowIs_below HW.out hb2; have d0 := hrow2.cell (i := k * 3) (by omega); have z0 := hrow2.frozen (k * 3); have d1 := hrow2.cell (i := k * 3 + 1) (by omega); have z1 := hrow2.frozen (k * 3 + 1); have d2 := hrow2.cell (i := k * 3 + 2) (by omega); have z2 := hrow2.frozen (k * 3 + 2); have HW2 : Hid (w2.rowIs w.heap.size 42 (n * 3) f) := hrow2; clear hrow2))
        go_roundw
        case rel =>
          exact ⟨k + 1, by omega, by go_num, set3 HW2.out HF.out, (((hbel.trans (hb2.mono hbel.size)).setCell (Nat.le_refl _) _).setCell (Nat.le_refl _) _).setCell (Nat.le_refl _) _⟩
        case measure => simp [intOf]; omega
    · have e : k = n := by omega
      subst e
      go_wp2
      go_ret
      exact ⟨_, rfl, Nat.le_refl _, hrow.congr fun i hi => HF.out i hi, hbel⟩

/-- A copy: it lies in new memory, each row in a block of its own. -/
def Prof.Copied (P : Prof) (base : Nat) (w : World) (v : Value) : Prop :=
  ∃ g h, v = .agg #[.slice (some ⟨g, 0, none⟩) P.np P.np, .slice (some ⟨h, 0, none⟩) P.nz P.nz, .int .i64 P.train, .int .i64 P.fin, .int .i64 P.delay] ∧ base ≤ g ∧ g < h ∧ P.np ≤ 1048576 ∧ P.nz ≤ 1048576 ∧ w.rowIs g 39 (P.np * 2) (col2 P.L P.B) ∧ w.rowIs h 42 (P.nz * 3) (col3 P.F P.T P.S)
theorem Prof.Copied.lies {P : Prof} {base : Nat} {w : World} {v : Value} (h : P.Copied base w v) : P.Lies w v := by
  obtain ⟨g, h, rfl, _, _, h1, h2, h3, h4⟩ := h
  exact ⟨_, _, _, _, rfl, by omega, by omega, row2_of h3, row3_of h4⟩
theorem Prof.Copied.below {P : Prof} {base : Nat} {w w1 : World} {v : Value} (h : P.Copied base w v) (hb : Below w.heap.size w w1) : P.Copied base w1 v := by
  obtain ⟨g, h, rfl, h0, h0', h1, h2, h3, h4⟩ := h
  exact ⟨g, h, rfl, h0, h0', h1, h2, rowIs_below h3 hb, rowIs_below h4 hb⟩

set_option maxHeartbeats 1000000 in
theorem toProfile_any (P : Prof) (v : Value) (w : World) (hl : P.Lies w v) (h : P.np + P.nz ≤ 1048576) :
    Calls Tryd.prog 6 #[v] w fun e w' => ∃ v', e = .returned v' ∧ P.Copied w.heap.size w' v' ∧ Below w.heap.size w w' := by
  obtain ⟨ap, cp, az, cz, rfl, hn, hn', hr2, hr3⟩ := hl
  have HR2 : Hid (Row2 w ap P.np P.L P.B) := hr2
  have HR3 : Hid (Row3 w az P.nz P.F P.T P.S) := hr3
  clear hr2 hr3
  go_enter Tryd.func6, Tryd.ntmps6
  go_wp2_with fail
  obtain ⟨N, hN⟩ : ∃ N, w.heap.size = N := ⟨_, rfl⟩
  generalize hW : ((w.alloc _).alloc _).alloc _ = W
  have bW : Below w.heap.size w W := by rw [← hW]; exact (((Below.refl _ _).alloc (Nat.le_refl _) _).alloc (by simp) _).alloc (by simp; omega) _
  have sW : W.heap.size = N + 3 := by rw [← hW, ← hN]; simp
  have a0 : W.cell? ⟨N, 0, none⟩ = some (.slice ap P.np cp) := by subst hW hN; go_simp
  have a1 : W.cell? ⟨N, 1, none⟩ = some (.slice az P.nz cz) := by subst hW hN; go_simp
  have a2 : W.cell? ⟨N, 2, none⟩ = some (.int .i64 P.train) := by subst hW hN; go_simp
  have a3 : W.cell? ⟨N, 3, none⟩ = some (.int .i64 P.fin) := by subst hW hN; go_simp
  have a4 : W.cell? ⟨N, 4, none⟩ = some (.int .i64 P.delay) := by subst hW hN; go_simp
  have o1 : W.rowIs (N + 1) 31 5 (fun i => #[Value.slice none 0 0, Value.slice none 0 0, Value.int .i64 0, Value.int .i64 0, Value.int .i64 0][i]!) := by
    subst hW hN
    have := World.rowIs_alloc (w.alloc (Obj.cells #[Value.slice ap P.np cp, Value.slice az P.nz cz, Value.int .i64 P.train, Value.int .i64 P.fin, Value.int .i64 P.delay] 25)) #[Value.slice none 0 0, Value.slice none 0 0, Value.int .i64 0, Value.int .i64 0, Value.int .i64 0] 31 (fun i => #[Value.slice none 0 0, Value.slice none 0 0, Value.int .i64 0, Value.int .i64 0, Value.int .i64 0][i]!) (fun i hi => by simp at hi; simp [hi])
    exact (by simpa using this.alloc _)
  have o2 : W.rowIs (N + 2) 31 5 (fun i => #[Value.slice none 0 0, Value.slice none 0 0, Value.int .i64 0, Value.int .i64 0, Value.int .i64 0][i]!) := by
    subst hW hN
    have := World.rowIs_alloc ((w.alloc (Obj.cells #[Value.slice ap P.np cp, Value.slice az P.nz cz, Value.int .i64 P.train, Value.int .i64 P.fin, Value.int .i64 P.delay] 25)).alloc (Obj.cells #[Value.slice none 0 0, Value.slice none 0 0, Value.int .i64 0, Value.int .i64 0, Value.int .i64 0] 31)) #[Value.slice none 0 0, Value.slice none 0 0, Value.int .i64 0, Value.int .i64 0, Value.int .i64 0] 31 (fun i => #[Value.slice none 0 0, Value.slice none 0 0, Value.int .i64 0, Value.int .i64 0, Value.int .i64 0][i]!) (fun i hi => by simp at hi; simp [hi])
    exact (by simpa using this)
  clear hW
  rw [hN]
  refine (toPieceS_any _ _ _ P.L P.B _ (HR2.out.below bW) (by omega)).mono ?_
  rintro e w1 ⟨g, rfl, hg, hrow1, hb1⟩
  have b1 : Below w.heap.size w w1 := bW.trans (hb1.mono bW.size)
  have lN : N < W.heap.size := by omega
  replace a1 := (hb1.cell (p := ⟨N, 1, none⟩) lN).trans a1
  replace a2 := (hb1.cell (p := ⟨N, 2, none⟩) lN).trans a2
  replace a3 := (hb1.cell (p := ⟨N, 3, none⟩) lN).trans a3
  replace a4 := (hb1.cell (p := ⟨N, 4, none⟩) lN).trans a4
  replace o1 := rowIs_below o1 hb1
  replace o2 := rowIs_below o2 hb1
  have s1 := hb1.size
  have c0 := o2.cell (i := 0) (by omega)
  have f0 := o2.frozen 0
  have O1 : Hid (w1.rowIs (N + 1) 31 5 (fun i => #[Value.slice none 0 0, Value.slice none 0 0, Value.int .i64 0, Value.int .i64 0, Value.int .i64 0][i]!)) := o1
  have O2 : Hid (w1.rowIs (N + 2) 31 5 (fun i => #[Value.slice none 0 0, Value.slice none 0 0, Value.int .i64 0, Value.int .i64 0, Value.int .i64 0][i]!)) := o2
  have G1 : Hid (w1.rowIs g 39 (P.np * 2) (col2 P.L P.B)) := hrow1
  clear hb1 a0 o1 o2 hrow1
  go_wp2_with fail
  generalize hW2 : w1.setCell _ _ = W2
  have g2 : W2.rowIs g 39 (P.np * 2) (col2 P.L P.B) := by rw [← hW2]; exact G1.out.setOther (by show g ≠ N + 2; omega) _
  have q1 := O1.out.setOther (a := ⟨N + 2, 0, none⟩) (by show N + 1 ≠ N + 2; omega) (.slice (some ⟨g, 0, none⟩) P.np P.np)
  have q2 := O2.out.set 0 (.slice (some ⟨g, 0, none⟩) P.np P.np)
  have b2 : Below w.heap.size w W2 := by rw [← hW2]; exact b1.setCell (by show w.heap.size ≤ N + 2; omega) _
  have s2 : W2.heap.size = w1.heap.size := by rw [← hW2]; simp
  have d2 : W2.cell? ⟨N, 2, none⟩ = some (.int .i64 P.train) := by rw [← hW2, World.cell?_setCell_other _ _ _ _ (by simp)]; exact a2
  have d3 : W2.cell? ⟨N, 3, none⟩ = some (.int .i64 P.fin) := by rw [← hW2, World.cell?_setCell_other _ _ _ _ (by simp)]; exact a3
  have d4 : W2.cell? ⟨N, 4, none⟩ = some (.int .i64 P.delay) := by rw [← hW2, World.cell?_setCell_other _ _ _ _ (by simp)]; exact a4
  rw [hW2] at q1 q2
  clear hW2 G1 O1 O2 a1 a2 a3 a4 c0 f0
  refine (toZoneS_any _ _ _ P.F P.T P.S _ (HR3.out.below b2) (by omega)).mono ?_
  rintro e w2 ⟨h, rfl, hh, hrow2, hb2⟩
  have lN2 : N < W2.heap.size := by omega
  have b3 : Below w.heap.size w w2 := b2.trans (hb2.mono b2.size)
  replace d2 := (hb2.cell (p := ⟨N, 2, none⟩) lN2).trans d2
  replace d3 := (hb2.cell (p := ⟨N, 3, none⟩) lN2).trans d3
  replace d4 := (hb2.cell (p := ⟨N, 4, none⟩) lN2).trans d4
  have gh : g < W2.heap.size := g2.lt
  have G2 : Hid (w2.rowIs g 39 (P.np * 2) (col2 P.L P.B)) := rowIs_below g2 hb2
  have H2 : Hid (w2.rowIs h 42 (P.nz * 3) (col3 P.F P.T P.S)) := hrow2
  replace q1 := rowIs_below q1 hb2
  replace q2 := rowIs_below q2 hb2
  have x0 : w2.cell? ⟨N + 2, 0, none⟩ = some (.slice (some ⟨g, 0, none⟩) P.np P.np) := q2.cell (i := 0) (by omega)
  have x1 : w2.cell? ⟨N + 2, 1, none⟩ = some (.slice none 0 0) := q2.cell (i := 1) (by omega)
  have x2 : w2.cell? ⟨N + 2, 2, none⟩ = some (.int .i64 0) := q2.cell (i := 2) (by omega)
  have x3 : w2.cell? ⟨N + 2, 3, none⟩ = some (.int .i64 0) := q2.cell (i := 3) (by omega)
  have x4 : w2.cell? ⟨N + 2, 4, none⟩ = some (.int .i64 0) := q2.cell (i := 4) (by omega)
  have y0 : w2.cell? ⟨N + 1, 0, none⟩ = some (.slice none 0 0) := q1.cell (i := 0) (by omega)
  have y1 : w2.cell? ⟨N + 1, 1, none⟩ = some (.slice none 0 0) := q1.cell (i := 1) (by omega)
  have y2 : w2.cell? ⟨N + 1, 2, none⟩ = some (.int .i64 0) := q1.cell (i := 2) (by omega)
  have y3 : w2.cell? ⟨N + 1, 3, none⟩ = some (.int .i64 0) := q1.cell (i := 3) (by omega)
  have y4 : w2.cell? ⟨N + 1, 4, none⟩ = some (.int .i64 0) := q1.cell (i := 4) (by omega)
  have z1 := q1.frozen
  have z2 := q2.frozen
  clear q1 q2 hrow2 g2 b1 b2 hb2
  go_wp2
  refine bodyPost_ret (v := .agg #[.slice (some ⟨g, 0, none⟩) P.np P.np, .slice (some ⟨h, 0, none⟩) P.nz P.nz, .int .i64 P.train, .int .i64 P.fin, .int .i64 P.delay]) (by simp [results, Tryd.results6, go_sem, *]) rfl ⟨_, rfl, ⟨g, h, rfl, by omega, by omega, by omega, by omega, ?_, ?_⟩, ?_⟩
  · iterate 9 refine World.rowIs.setOther ?_ (by simp; omega) _
    exact G2.out
  · iterate 9 refine World.rowIs.setOther ?_ (by simp; omega) _
    exact H2.out
  · iterate 9 refine Below.setCell ?_ (by simp; omega) _
    exact b3

end Go.Proofs.YteodefmpkljedabDoor
