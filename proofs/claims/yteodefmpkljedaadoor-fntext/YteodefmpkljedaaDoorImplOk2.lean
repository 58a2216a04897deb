/-
  The program's ProfileOk, and a way with a place of it.
-/
import Derived.Test.YteodefmpkljedaaDoorImplOk
namespace Go.Proofs.YteodefmpkljedaaDoor
open Go.RowKit Go.Sort
set_option linter.unusedVariables false

set_option maxHeartbeats 4000000 in
theorem implOk_counts (P : Prof) (v : Value) (w : World) (hl : P.Lies w v) (h : ¬ P.Counts) :
    Calls Tryd.prog 15 #[v] w fun e w' => e = .returned (.int .i64 P.code) ∧ Below w.heap.size w w' := by
  obtain ⟨ap, cp, az, cz, rfl, hn, hn', hr2, hr3⟩ := hl
  have HC : Hid (P.code = 1) := code_1 h
  clear hr2 hr3
  unfold Prof.Counts at h
  by_cases h1 : P.np = 0
  · have h1' : ((P.np : Int) == 0) = true := by simp [h1]
    clear h
    go_enter Tryd.func15, Tryd.ntmps15
    go_wp2
    go_ret
    exact ⟨ret_int HC.out.symm, (Below.refl _ _).alloc (Nat.le_refl _) _⟩
  · have h1' : ((P.np : Int) == 0) = false := by simpa using h1
    by_cases h2 : 60 < P.np
    · clear h
      go_enter Tryd.func15, Tryd.ntmps15
      go_wp2
      go_ret
      exact ⟨ret_int HC.out.symm, (Below.refl _ _).alloc (Nat.le_refl _) _⟩
    · have h3 : 60 < P.nz := by omega
      have h2' : decide ((60 : Int) < (P.np : Int)) = false := by simp; omega
      clear h
      go_enter Tryd.func15, Tryd.ntmps15
      go_wp2
      go_ret
      exact ⟨ret_int HC.out.symm, (Below.refl _ _).alloc (Nat.le_refl _) _⟩

set_option maxHeartbeats 4000000 in
theorem implOk_rest (P : Prof) (v : Value) (w : World) (hl : P.Lies w v) (h : P.Counts) :
    Calls Tryd.prog 15 #[v] w fun e w' => e = .returned (.int .i64 P.code) ∧ Below w.heap.size w w' := by
  have HV : Hid (P.Lies w v) := hl
  have hmf : ∀ (fn : Fn) (first cap : Array Value) (w : World), (Instr.makeFunc fn first cap).run Tryd.prog w = .ok (.func fn first cap) w := fun _ _ _ _ => rfl
  obtain ⟨ap, cp, az, cz, rfl, hn, hn', hr2, hr3⟩ := hl
  have HC : Hid P.Counts := h
  have HR2 : Hid (Row2 w ap P.np P.L P.B) := hr2
  have HR3 : Hid (Row3 w az P.nz P.F P.T P.S) := hr3
  clear hr2 hr3
  obtain ⟨h1, h2, h3⟩ := h
  have h1' : ((P.np : Int) == 0) = false := by simp; omega
  have h2' : decide ((60 : Int) < (P.np : Int)) = false := by simp; omega
  have h3' : decide ((60 : Int) < (P.nz : Int)) = false := by simp; omega
  go_enter Tryd.func15, Tryd.ntmps15
  go_wp2_with fail
  generalize hW : w.alloc _ = W
  have bW : Below w.heap.size w W := by rw [← hW]; exact (Below.refl _ _).alloc (Nat.le_refl _) _
  have hbox : P.BoxAt W w.heap.size ap az cp cz := by subst hW; exact ⟨by go_simp, by go_simp, by go_simp, by go_simp, by go_simp⟩
  clear hW
  by_cases hp : P.PiecesOk
  · have HP : Hid P.PiecesOk := hp
    have HL : Hid P.Lens := Prof.lens_of HC.out hp
    refine (containsPieces_no _ _ _ P.L P.B _ (HR2.out.below bW) h2 hp).mono ?_
    rintro e w1 ⟨rfl, hb1⟩
    have b1 := bW.trans (hb1.mono bW.size)
    replace hbox := hbox.below hb1
    have HBX : Hid (P.BoxAt w1 w.heap.size ap az cp cz) := hbox
    obtain ⟨x0, x1, x2, x3, x4⟩ := hbox
    clear hb1 bW hp
    go_wp2_with fail
    refine (wayOver_any P _ _ (HV.out.below b1) HL.out).mono ?_
    rintro e w2 ⟨v', rfl, hway, hb2⟩
    have b2 := b1.trans (hb2.mono b1.size)
    have hbox2 := HBX.out.below hb2
    have HWAY : Hid (P.WayIs w2 v') := hway
    obtain ⟨bp, dp, bz, dz, g, rfl, _, _, _, _, hrow⟩ := hway
    have hbx := hbox2.lt
    clear x0 x1 x2 x3 x4 hb2 HBX hrow
    have HBX : Hid (P.BoxAt w2 w.heap.size ap az cp cz) := hbox2
    obtain ⟨x0, x1, x2, x3, x4⟩ := hbox2
    go_wp2_with fail
    obtain ⟨zb, hzb⟩ : ∃ zb, w2.heap.size = zb := ⟨_, rfl⟩
    rw [hzb]
    generalize hW3 : w2.alloc _ = W3
    have bq : Below w2.heap.size w2 W3 := by rw [← hW3]; exact (Below.refl _ _).alloc (Nat.le_refl _) _
    have b3 := b2.trans (bq.mono b2.size)
    have s3 : zb < W3.heap.size := by rw [← hW3, ← hzb]; simp
    have z0 : W3.cell? ⟨zb, 0, none⟩ = some (.slice bp P.np dp) := by subst hW3 hzb; go_simp
    have z1 : W3.cell? ⟨zb, 1, none⟩ = some (.slice bz P.nz dz) := by subst hW3 hzb; go_simp
    have z2 : W3.cell? ⟨zb, 2, none⟩ = some (.int .i64 P.train) := by subst hW3 hzb; go_simp
    have z3 : W3.cell? ⟨zb, 3, none⟩ = some (.int .i64 P.fin) := by subst hW3 hzb; go_simp
    have z4 : W3.cell? ⟨zb, 4, none⟩ = some (.int .i64 P.delay) := by subst hW3 hzb; go_simp
    have z5 : W3.cell? ⟨zb, 5, none⟩ = some (.slice (some ⟨g, 0, none⟩) P.np P.np) := by subst hW3 hzb; go_simp
    have hbox3 := HBX.out.below bq
    have hway3 := HWAY.out.below bq
    clear hW3 x0 x1 x2 x3 x4 HBX HWAY
    by_cases hz : P.ZonesOk
    · have HZ : Hid P.ZonesOk := hz
      refine (containsZones_no P _ _ _ _ P.F P.T P.S _ hway3 h1 (HR3.out.below b3) h3 hz).mono ?_
      rintro e w4 ⟨rfl, hb4⟩
      have b4 := b3.trans (hb4.mono b3.size)
      have hway4 := hway3.below hb4
      obtain ⟨x0, x1, x2, x3, x4⟩ := hbox3.below hb4
      replace z0 := (hb4.cell (p := ⟨zb, 0, none⟩) s3).trans z0
      replace z1 := (hb4.cell (p := ⟨zb, 1, none⟩) s3).trans z1
      replace z2 := (hb4.cell (p := ⟨zb, 2, none⟩) s3).trans z2
      replace z3 := (hb4.cell (p := ⟨zb, 3, none⟩) s3).trans z3
      replace z4 := (hb4.cell (p := ⟨zb, 4, none⟩) s3).trans z4
      replace z5 := (hb4.cell (p := ⟨zb, 5, none⟩) s3).trans z5
      have HWAY : Hid (P.WayIs w4 (.agg #[.slice bp P.np dp, .slice bz P.nz dz, .int .i64 P.train, .int .i64 P.fin, .int .i64 P.delay, .slice (some ⟨g, 0, none⟩) P.np P.np])) := hway4
      have l4 : w.heap.size < w4.heap.size := World.block_lt_of_cell? _ _ x0
      clear hb4 hway4 hway3 hbox3 hz
      by_cases t : 0 ≤ P.train ∧ P.train ≤ 100000000
      · by_cases f : 0 ≤ P.fin ∧ P.fin ≤ P.total
        · by_cases d : 0 ≤ P.delay ∧ P.delay ≤ 20
          · have HE : Hid (P.code = 0) := code_0 HC.out HP.out HZ.out t f d
            go_wp2_with (first | (go_at_call 32; refine (isLength_yes _ _ (by omega) (by omega)).mono ?_; rintro e w5 ⟨rfl, rfl⟩) | (go_at_call 33; refine (isPlace_yes P _ _ _ HWAY.out h1 (by omega) (by omega)).mono ?_; rintro e w6 ⟨rfl, hb6⟩; replace x4 := (hb6.cell (p := ⟨w.heap.size, 4, none⟩) l4).trans x4) | (go_at_call 34; refine (isDelay_yes _ _ (by omega) (by omega)).mono ?_; rintro e w7 ⟨rfl, rfl⟩))
            go_ret
            exact ⟨ret_int HE.out.symm, b4.trans (hb6.mono b4.size)⟩
          · have HE : Hid (P.code = 6) := code_6 HC.out HP.out HZ.out t f d
            go_wp2_with (first | (go_at_call 32; refine (isLength_yes _ _ (by omega) (by omega)).mono ?_; rintro e w5 ⟨rfl, rfl⟩) | (go_at_call 33; refine (isPlace_yes P _ _ _ HWAY.out h1 (by omega) (by omega)).mono ?_; rintro e w6 ⟨rfl, hb6⟩; replace x4 := (hb6.cell (p := ⟨w.heap.size, 4, none⟩) l4).trans x4) | (go_at_call 34; refine (isDelay_no _ _ (by omega)).mono ?_; rintro e w7 ⟨rfl, rfl⟩))
            go_ret
            exact ⟨ret_int HE.out.symm, b4.trans (hb6.mono b4.size)⟩
        · have HE : Hid (P.code = 5) := code_5 HC.out HP.out HZ.out t f
          go_wp2_with (first | (go_at_call 32; refine (isLength_yes _ _ (by omega) (by omega)).mono ?_; rintro e w5 ⟨rfl, rfl⟩) | (go_at_call 33; refine (isPlace_no P _ _ _ HWAY.out h1 (by omega)).mono ?_; rintro e w6 ⟨rfl, hb6⟩))
          go_ret
          exact ⟨ret_int HE.out.symm, b4.trans (hb6.mono b4.size)⟩
      · have HE : Hid (P.code = 4) := code_4 HC.out HP.out HZ.out t
        go_wp2_with (go_at_call 32; refine (isLength_no _ _ (by omega)).mono ?_; rintro e w5 ⟨rfl, rfl⟩)
        go_ret
        exact ⟨ret_int HE.out.symm, b4⟩
    · have HE : Hid (P.code = 3) := code_3 HC.out HP.out hz
      refine (containsZones_yes P _ _ _ _ P.F P.T P.S _ hway3 h1 (HR3.out.below b3) h3 hz).mono ?_
      rintro e w4 ⟨rfl, hb4⟩
      have b4 := b3.trans (hb4.mono b3.size)
      clear hz hb4 hway3 hbox3 z0 z1 z2 z3 z4 z5
      go_wp2
      go_ret
      exact ⟨ret_int HE.out.symm, b4⟩
  · have HE : Hid (P.code = 2) := code_2 HC.out hp
    refine (containsPieces_yes _ _ _ P.L P.B _ (HR2.out.below bW) h2 hp).mono ?_
    rintro e w1 ⟨rfl, hb1⟩
    have b1 := bW.trans (hb1.mono bW.size)
    clear hp hb1 hbox
    go_wp2
    go_ret
    exact ⟨ret_int HE.out.symm, b1⟩

theorem implOk_any (P : Prof) (v : Value) (w : World) (hl : P.Lies w v) :
    Calls Tryd.prog 15 #[v] w fun e w' => e = .returned (.int .i64 P.code) ∧ Below w.heap.size w w' := by
  by_cases h : P.Counts
  · exact implOk_rest P v w hl h
  · exact implOk_counts P v w hl h

/-- The profile is right, and x is a place of it. -/
def Prof.With (P : Prof) (x : Int) : Prop := P.Ok ∧ 0 ≤ x ∧ x ≤ P.total

end Go.Proofs.YteodefmpkljedaaDoor
