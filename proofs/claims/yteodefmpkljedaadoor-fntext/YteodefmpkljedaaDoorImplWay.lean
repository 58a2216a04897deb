/-
  The program's walks of chapter 2: a way over a profile, its places.
-/
import Derived.Test.YteodefmpkljedaaDoorWay
import Derived.Test.YteodefmpkljedaaDoorLawHelp
namespace Go.Proofs.YteodefmpkljedaaDoor
open Go.RowKit Go.Sort
set_option linter.unusedVariables false

theorem Tryd.infoInt : (Tryd.prog.info? 3).map (fun i => (i.zero, i.size, i.bytes)) = some (some (.int .i64 0), 1, 8) := by kernel_rfl

theorem Prof.BoxAt.below' {P : Prof} {w w1 : World} {n m : Nat} {ap az : Option Addr} {cp cz : Nat} (h : P.BoxAt w n ap az cp cz) (hm : n < m) (hb : Below m w w1) : P.BoxAt w1 n ap az cp cz := by
  obtain ⟨h0, h1, h2, h3, h4⟩ := h
  refine ⟨?_, ?_, ?_, ?_, ?_⟩ <;> (rw [hb.cell hm]; assumption)

/-- The ends of the pieces, in a row of cells. -/
def endOf (L : Nat → Int) (i : Nat) : Value := .int .i64 (sumTo L (i + 1))
/-- A way over the profile: its own row of ends, in new memory. -/
def Prof.WayIs (P : Prof) (w : World) (v : Value) : Prop :=
  ∃ ap cp az cz g, v = .agg #[.slice ap P.np cp, .slice az P.nz cz, .int .i64 P.train, .int .i64 P.fin, .int .i64 P.delay, .slice (some ⟨g, 0, none⟩) P.np P.np] ∧ (P.np ≤ 9223372036854775807 ∧ P.np ≤ cp) ∧ P.nz ≤ 9223372036854775807 ∧ Row2 w ap P.np P.L P.B ∧ Row3 w az P.nz P.F P.T P.S ∧ w.rowIs g 3 P.np (endOf P.L)
theorem Prof.WayIs.below {P : Prof} {w w1 : World} {v : Value} (h : P.WayIs w v) (hb : Below w.heap.size w w1) : P.WayIs w1 v := by
  obtain ⟨ap, cp, az, cz, g, rfl, h1, h2, h3, h4, h5⟩ := h
  exact ⟨ap, cp, az, cz, g, rfl, h1, h2, h3.below hb, h4.below hb, rowIs_below h5 hb⟩

def wayZeros (i : Nat) : Value := #[Value.slice none 0 0, Value.slice none 0 0, Value.int .i64 0, Value.int .i64 0, Value.int .i64 0, Value.slice none 0 0][i]!

set_option maxHeartbeats 2000000 in
theorem wayOver_at (P : Prof) (ap az : Option Addr) (cp cz : Nat) (w : World) (hn : P.np ≤ 9223372036854775807 ∧ P.np ≤ cp) (hn' : P.nz ≤ 9223372036854775807) (hr2 : Row2 w ap P.np P.L P.B) (hok : P.Lens) :
    Calls Tryd.prog 29 #[.agg #[.slice ap P.np cp, .slice az P.nz cz, .int .i64 P.train, .int .i64 P.fin, .int .i64 P.delay]] w fun e w' => ∃ g, e = .returned (.agg #[.slice ap P.np cp, .slice az P.nz cz, .int .i64 P.train, .int .i64 P.fin, .int .i64 P.delay, .slice (some ⟨g, 0, none⟩) P.np P.np]) ∧ w.heap.size ≤ g ∧ w'.rowIs g 3 P.np (endOf P.L) ∧ Below w.heap.size w w' := by
  have hsz := hok.1
  have HB : Hid (∀ k : Nat, k ≤ P.np → (k : Int) ≤ sumTo P.L k ∧ sumTo P.L k ≤ 1666666 * k) := sumTo_bounds hok.2
  have HL : Hid (P.Lens) := hok
  have HR : Hid (Row2 w ap P.np P.L P.B) := hr2
  clear hok hr2
  obtain ⟨i0, hi, hz0, hz1, hz2⟩ := info_parts Tryd.infoInt
  have hmk : ∀ w : World, (Instr.makeSlice 27 (.int .i64 (P.np : Int)) (.int .i64 (P.np : Int))).run Tryd.prog w = .ok (.slice (some ⟨w.heap.size, 0, none⟩) P.np P.np) (w.alloc (.cells (madeCells #[.int .i64 0] P.np) 3)) := by
    intro w
    have := run_make (P := Tryd.prog) w 27 3 i0 _ Tryd.underlying27 hi hz0 .i64 .i64 P.np P.np (by omega) (by omega) (by rw [hz2]; omega) (by omega)
    simpa [hz1, Value.cells] using this
  go_enter Tryd.func29, Tryd.ntmps29
  go_wp2
  go_loopw [4, 14] (fun s i wr => ∃ k : Nat, k ≤ P.np ∧ i = .int .i64 k ∧ s = .int .i64 (sumTo P.L k) ∧ Hid (∃ f, wr.rowIs (w.heap.size + 1 + 1) 3 P.np f ∧ ∀ j, j < k → f j = endOf P.L j) ∧ Hid (wr.rowIs (w.heap.size + 1) 68 6 wayZeros) ∧ P.BoxAt wr w.heap.size ap az cp cz ∧ Below w.heap.size w wr) (fun _ i _ => P.np - (intOf i).toNat)
  case atStart =>
    refine ⟨0, Nat.zero_le _, rfl, rfl, ?_, ?_, ⟨by go_simp, by go_simp, by go_simp, by go_simp, by go_simp⟩, (((Below.refl _ _).alloc (Nat.le_refl _) _).alloc (by simp) _).alloc (by simp; omega) _⟩
    · have := rowIs_zeros ((w.alloc (.cells #[.slice ap P.np cp, .slice az P.nz cz, .int .i64 P.train, .int .i64 P.fin, .int .i64 P.delay] 26)).alloc (.cells #[Value.slice none 0 0, Value.slice none 0 0, Value.int .i64 0, Value.int .i64 0, Value.int .i64 0, Value.slice none 0 0] 68)) #[.int .i64 0] P.np 3
      simp only [World.size_alloc] at this
      exact ⟨_, this, fun j hj => by omega⟩
    · have := World.rowIs_alloc (w.alloc (.cells #[.slice ap P.np cp, .slice az P.nz cz, .int .i64 P.train, .int .i64 P.fin, .int .i64 P.delay] 26)) #[Value.slice none 0 0, Value.slice none 0 0, Value.int .i64 0, Value.int .i64 0, Value.int .i64 0, Value.slice none 0 0] 68 wayZeros (fun i hi => by simp at hi; simp [wayZeros, hi])
      show World.rowIs _ _ _ _ _
      exact (by simpa using this.alloc _)
  case round =>
    obtain ⟨k, hk, rfl, rfl, HF, HZ, hbox, hbel⟩ := hrel
    have hbx := hbox.lt
    by_cases hlt : k < P.np
    · rcases HR.out with h0 | ⟨b, off, rfl, hb, hc⟩
      · omega
      · have c0 : wr.cell? ⟨b, off + k * 2, none⟩ = some (.int .i64 (P.L k)) := by rw [hbel.cell hb]; exact (hc k hlt).1
        have c1 : wr.cell? ⟨b, off + k * 2 + 1, none⟩ = some (.int .i64 (P.B k)) := by rw [hbel.cell hb]; exact (hc k hlt).2
        have g1 := HB.out k hk
        have g2 := HL.out.2 k hlt
        clear hc
        obtain ⟨f, hrow, hf⟩ := HF.out
        have lrow := hrow.lt
        have r0 := hrow.cell (i := k) (by omega)
        have r1 := hrow.frozen k
        have HROW : Hid (wr.rowIs (w.heap.size + 1 + 1) 3 P.np f ∧ ∀ j, j < k → f j = endOf P.L j) := ⟨hrow, hf⟩
        have HBOX : Hid (P.BoxAt wr w.heap.size (some ⟨b, off, none⟩) az cp cz) := hbox
        clear hrow hf HF hbox
        go_wp2
        go_roundw
        case rel =>
          have hz := (HZ.out.setOther (a := ⟨w.heap.size + 1 + 1, k, none⟩) (by simp) (.int .i64 (sumTo P.L k + P.L k))).alloc (.cells #[.int .i64 (P.L k), .int .i64 (P.B k)] 46)
          refine ⟨k + 1, by omega, by go_num, by simp [sumTo], ⟨_, (HROW.out.1.set _ _).alloc _, fun j hj => ?_⟩, hz, ?_, (hbel.setCell (by simp; omega) _).alloc (by simp; omega) _⟩
          · by_cases c : j = k
            · subst c; simp [endOf, sumTo]
            · simp [c]; exact HROW.out.2 j (by omega)
          · exact HBOX.out.below' (by omega) (((Below.refl (w.heap.size + 1) wr).setCell (by simp) _).alloc (by simp; omega) _)
        case measure => simp [intOf]; omega
    · have e : k = P.np := by omega
      subst e
      obtain ⟨x0, x1, x2, x3, x4⟩ := hbox
      have z0 := HZ.out.cell (i := 0) (by omega)
      have z1 := HZ.out.cell (i := 1) (by omega)
      have z2 := HZ.out.cell (i := 2) (by omega)
      have z3 := HZ.out.cell (i := 3) (by omega)
      have z4 := HZ.out.cell (i := 4) (by omega)
      have z5 := HZ.out.cell (i := 5) (by omega)
      have zf := HZ.out.frozen
      simp only [wayZeros] at z0 z1 z2 z3 z4 z5
      go_wp2
      refine bodyPost_ret (v := .agg #[.slice ap P.np cp, .slice az P.nz cz, .int .i64 P.train, .int .i64 P.fin, .int .i64 P.delay, .slice (some ⟨w.heap.size + 1 + 1, 0, none⟩) P.np P.np]) (by simp [results, Tryd.results29, go_sem, *]) rfl ⟨_, rfl, by omega, ?_, ?_⟩
      · obtain ⟨f, hrow, hf⟩ := HF.out
        iterate 6 refine World.rowIs.setOther ?_ (by simp) _
        exact hrow.congr fun i hi => hf i hi
      · iterate 6 refine Below.setCell ?_ (by simp) _
        exact hbel

theorem wayOver_any (P : Prof) (v : Value) (w : World) (hl : P.Lies w v) (hok : P.Lens) :
    Calls Tryd.prog 29 #[v] w fun e w' => ∃ v', e = .returned v' ∧ P.WayIs w' v' ∧ Below w.heap.size w w' := by
  obtain ⟨ap, cp, az, cz, rfl, hn, hn', hr2, hr3⟩ := hl
  refine (wayOver_at P ap az cp cz w hn hn' hr2 hok).mono ?_
  rintro e w' ⟨g, rfl, _, hrow, hb⟩
  exact ⟨_, rfl, ⟨ap, cp, az, cz, g, rfl, hn, hn', hr2.below hb, hr3.below hb, hrow⟩, hb⟩

set_option maxHeartbeats 1000000 in
theorem isPlace_yes (P : Prof) (v : Value) (x : Int) (w : World) (hl : P.WayIs w v) (h1 : 1 ≤ P.np) (g0 : 0 ≤ x) (g1 : x ≤ P.total) :
    Calls Tryd.prog 33 #[v, .int .i64 x] w fun e w' => e = .returned (.bool true) ∧ Below w.heap.size w w' := by
  obtain ⟨ap, cp, az, cz, g, rfl, hn, hn', hr2, hr3, hrow⟩ := hl
  have gl := hrow.lt
  have c : w.cell? ⟨g, P.np - 1, none⟩ = some (.int .i64 P.total) := by rw [hrow.cell (by omega), endOf, show P.np - 1 + 1 = P.np by omega]; rfl
  clear hr2 hr3 hrow
  go_enter Tryd.func33, Tryd.ntmps33
  go_wp2
  go_ret
  exact ⟨by simp, (Below.refl _ _).alloc (Nat.le_refl _) _⟩

set_option maxHeartbeats 1000000 in
theorem isPlace_no (P : Prof) (v : Value) (x : Int) (w : World) (hl : P.WayIs w v) (h1 : 1 ≤ P.np) (h : x < 0 ∨ P.total < x) :
    Calls Tryd.prog 33 #[v, .int .i64 x] w fun e w' => e = .returned (.bool false) ∧ Below w.heap.size w w' := by
  obtain ⟨ap, cp, az, cz, g, rfl, hn, hn', hr2, hr3, hrow⟩ := hl
  have gl := hrow.lt
  have c : w.cell? ⟨g, P.np - 1, none⟩ = some (.int .i64 P.total) := by rw [hrow.cell (by omega), endOf, show P.np - 1 + 1 = P.np by omega]; rfl
  clear hr2 hr3 hrow
  by_cases q : 0 ≤ x
  · have g' : decide (x ≤ P.total) = false := by simp; omega
    clear h
    go_enter Tryd.func33, Tryd.ntmps33
    go_wp2
    go_ret
    exact ⟨by simp, (Below.refl _ _).alloc (Nat.le_refl _) _⟩
  · have g' : decide (0 ≤ x) = false := by simpa using q
    clear h
    go_enter Tryd.func33, Tryd.ntmps33
    go_wp2
    go_ret
    exact ⟨by simp, (Below.refl _ _).alloc (Nat.le_refl _) _⟩

set_option maxHeartbeats 1000000 in
theorem isWrongPiece_no (l b : Int) (w : World) (h : (1 ≤ l ∧ l ≤ 1666666) ∧ (10 ≤ b ∧ b ≤ 1000)) :
    Calls Tryd.prog 28 #[.agg #[.int .i64 l, .int .i64 b]] w fun e w' => e = .returned (.bool false) ∧ Below w.heap.size w w' := by
  obtain ⟨⟨h1, h2⟩, h3, h4⟩ := h
  have g1 : decide (l < 1) = false := by simp; omega
  have g2 : decide (1666666 < l) = false := by simp; omega
  go_enter Tryd.func28, Tryd.ntmps28
  go_wp2_with (go_at_call 47; refine (isBrake_yes _ _ (by omega) (by omega)).mono ?_; rintro e w2 ⟨rfl, rfl⟩)
  go_ret
  exact ⟨by simp, (Below.refl _ _).alloc (Nat.le_refl _) _⟩

set_option maxHeartbeats 1000000 in
theorem isWrongPiece_yes (l b : Int) (w : World) (h : ¬ ((1 ≤ l ∧ l ≤ 1666666) ∧ (10 ≤ b ∧ b ≤ 1000))) :
    Calls Tryd.prog 28 #[.agg #[.int .i64 l, .int .i64 b]] w fun e w' => e = .returned (.bool true) ∧ Below w.heap.size w w' := by
  by_cases h1 : l < 1
  · clear h
    go_enter Tryd.func28, Tryd.ntmps28
    go_wp2
    go_ret
    exact ⟨by simp, (Below.refl _ _).alloc (Nat.le_refl _) _⟩
  · have g1 : decide (l < 1) = false := by simpa using h1
    by_cases h2 : 1666666 < l
    · clear h
      go_enter Tryd.func28, Tryd.ntmps28
      go_wp2
      go_ret
      exact ⟨by simp, (Below.refl _ _).alloc (Nat.le_refl _) _⟩
    · have g2 : decide (1666666 < l) = false := by simpa using h2
      have h3 : b < 10 ∨ 1000 < b := by omega
      clear h
      go_enter Tryd.func28, Tryd.ntmps28
      go_wp2_with (go_at_call 47; refine (isBrake_no _ _ (by omega)).mono ?_; rintro e w2 ⟨rfl, rfl⟩)
      go_ret
      exact ⟨by simp, (Below.refl _ _).alloc (Nat.le_refl _) _⟩

def PieceOk (l b : Int) : Prop := (1 ≤ l ∧ l ≤ 1666666) ∧ (10 ≤ b ∧ b ≤ 1000)

set_option maxHeartbeats 1000000 in
theorem indexPieces_any (a : Option Addr) (n c : Nat) (L B : Nat → Int) (w : World) (hr : Row2 w a n L B) (hn : n ≤ 60) :
    Calls Tryd.prog 46 #[.slice a n c, .func (.func 28) #[] #[]] w fun e w' => ∃ i : Int, e = .returned (.int .i64 i) ∧ ((i = -1 ∧ ∀ j, j < n → PieceOk (L j) (B j)) ∨ (0 ≤ i ∧ ¬ ∀ j, j < n → PieceOk (L j) (B j))) ∧ Below w.heap.size w w' := by
  have HR : Hid (Row2 w a n L B) := hr
  clear hr
  go_enter Tryd.func46, Tryd.ntmps46
  go_wp2
  go_loopw [8] (fun i wr => ∃ k : Nat, k ≤ n ∧ i = .int .i64 k ∧ Hid (∀ j, j < k → PieceOk (L j) (B j)) ∧ Below w.heap.size w wr) (fun i _ => n - (intOf i).toNat)
  case atStart => exact ⟨0, Nat.zero_le _, rfl, fun j hj => by omega, Below.refl _ _⟩
  case round =>
    obtain ⟨k, hk, rfl, HK, hbel⟩ := hrel
    by_cases hlt : k < n
    · rcases HR.out with h0 | ⟨b, off, rfl, hb, hc⟩
      · omega
      · have c0 : wr.cell? ⟨b, off + k * 2, none⟩ = some (.int .i64 (L k)) := by rw [hbel.cell hb]; exact (hc k hlt).1
        have c1 : wr.cell? ⟨b, off + k * 2 + 1, none⟩ = some (.int .i64 (B k)) := by rw [hbel.cell hb]; exact (hc k hlt).2
        clear hc
        by_cases q : PieceOk (L k) (B k)
        · have HQ : Hid (PieceOk (L k) (B k)) := q
          clear q
          go_wp2_with (go_at_call 28; refine (isWrongPiece_no _ _ _ HQ.out).mono ?_; rintro e w2 ⟨rfl, hb2⟩)
          go_roundw
          case rel =>
            refine ⟨k + 1, by omega, by go_num, fun j hj => ?_, hbel.trans (hb2.mono hbel.size)⟩
            by_cases c : j < k
            · exact HK.out j c
            · have : j = k := by omega
              subst this; exact HQ.out
          case measure => simp [intOf]; omega
        · have HQ : Hid (¬ PieceOk (L k) (B k)) := q
          clear q
          go_wp2_with (go_at_call 28; refine (isWrongPiece_yes _ _ _ HQ.out).mono ?_; rintro e w2 ⟨rfl, hb2⟩)
          go_ret
          exact ⟨_, ret_int rfl, Or.inr ⟨by omega, fun h => HQ.out (h k hlt)⟩, hbel.trans (hb2.mono hbel.size)⟩
    · have e : k = n := by omega
      subst e
      go_wp2
      go_ret
      exact ⟨_, ret_int rfl, Or.inl ⟨rfl, HK.out⟩, hbel⟩

set_option maxHeartbeats 1000000 in
theorem containsPieces_no (a : Option Addr) (n c : Nat) (L B : Nat → Int) (w : World) (hr : Row2 w a n L B) (hn : n ≤ 60) (h : ∀ j, j < n → PieceOk (L j) (B j)) :
    Calls Tryd.prog 27 #[.slice a n c, .func (.func 28) #[] #[]] w fun e w' => e = .returned (.bool false) ∧ Below w.heap.size w w' := by
  have HR : Hid (Row2 w a n L B ∧ ∀ j, j < n → PieceOk (L j) (B j)) := ⟨hr, h⟩
  clear hr h
  go_enter Tryd.func27, Tryd.ntmps27
  go_wp2_with (go_at_call 46; refine (indexPieces_any _ _ _ L B _ HR.out.1 hn).mono ?_; rintro e w2 ⟨i, rfl, hi, hb2⟩; obtain rfl : i = -1 := hi.elim (fun h => h.1) (fun h => absurd HR.out.2 h.2))
  go_ret
  exact ⟨by simp, hb2⟩

set_option maxHeartbeats 1000000 in
theorem containsPieces_yes (a : Option Addr) (n c : Nat) (L B : Nat → Int) (w : World) (hr : Row2 w a n L B) (hn : n ≤ 60) (h : ¬ ∀ j, j < n → PieceOk (L j) (B j)) :
    Calls Tryd.prog 27 #[.slice a n c, .func (.func 28) #[] #[]] w fun e w' => e = .returned (.bool true) ∧ Below w.heap.size w w' := by
  have HR : Hid (Row2 w a n L B ∧ ¬ ∀ j, j < n → PieceOk (L j) (B j)) := ⟨hr, h⟩
  clear hr h
  go_enter Tryd.func27, Tryd.ntmps27
  go_wp2_with (go_at_call 46; refine (indexPieces_any _ _ _ L B _ HR.out.1 hn).mono ?_; rintro e w2 ⟨i, rfl, hi, hb2⟩; have hi0 : 0 ≤ i := hi.elim (fun h => absurd h.2 HR.out.2) (fun h => h.1); clear hi)
  go_ret
  exact ⟨by simp, hb2⟩

end Go.Proofs.YteodefmpkljedaaDoor
