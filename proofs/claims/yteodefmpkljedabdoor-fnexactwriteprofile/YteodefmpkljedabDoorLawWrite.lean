/-
  The law of WriteProfile, walked.
-/
import Derived.Test.YteodefmpkljedabDoorImplText4
import Derived.Test.YteodefmpkljedabDoorLawEq
import Derived.Deep.RegionHeld3
namespace Go.Proofs.YteodefmpkljedabDoor
open Go.RowKit Go.Sort Go.Shelf
set_option linter.unusedVariables false
set_option linter.unusedSimpArgs false

set_option maxRecDepth 20000 in
set_option maxHeartbeats 4000000 in
theorem fnExactWrite_any (P : Prof) (v : Value) (w : World) (hl : P.Lies w v) (hw : WordsAt w) (ht : PowAt w) :
    Calls Tryd.prog 3 #[v] w fun e w' => e = .returned (.bool true) ∧ Below w.heap.size w w' := by
  have HWW : Hid (WordsAt w) := hw
  have HTT : Hid (PowAt w) := ht
  obtain ⟨A, hA⟩ : ∃ A, P.textAns = A := ⟨_, rfl⟩
  have HSP : Hid (∀ v w, P.Lies w v → Calls Tryd.prog 5 #[v] w fun e w' => e = .returned (.string ⟨A.toArray⟩) ∧ Below w.heap.size w w') := fun v w h => by rw [← hA]; exact specWrite_any P v w h
  have HIM : Hid (∀ v w, P.Lies w v → WordsAt w → PowAt w → Calls Tryd.prog 7 #[v] w fun e w' => e = .returned (.string ⟨A.toArray⟩) ∧ Below w.heap.size w w') := fun v w h a b => by rw [← hA]; exact implWrite_any P v w h a b
  clear hA hw ht
  have HV : Hid (P.Lies w v) := hl
  by_cases hs : 1048576 < P.np + P.nz
  · obtain ⟨ap, cp, az, cz, rfl, hn, hn', hr2, hr3⟩ := hl
    clear hr2 hr3
    go_enter Tryd.func3, Tryd.ntmps3
    go_wp2_with (go_at_call 4; refine (szProfile_no P _ _ (HV.out.below ((Below.refl _ _).alloc (Nat.le_refl _) _)) hs).mono ?_; rintro e w1 ⟨rfl, hb1⟩)
    go_ret
    exact ⟨rfl, ((Below.refl _ _).alloc (Nat.le_refl _) _).trans (hb1.mono (by simp))⟩
  · have hs' : P.np + P.nz ≤ 1048576 := by omega
    clear hs
    obtain ⟨ap, cp, az, cz, rfl, hn, hn', hr2, hr3⟩ := hl
    clear hr2 hr3
    go_enter Tryd.func3, Tryd.ntmps3
    go_wp2_with fail
    generalize hW : w.alloc _ = W
    have bW : Below w.heap.size w W := by rw [← hW]; exact (Below.refl _ _).alloc (Nat.le_refl _) _
    have hbox : P.BoxAt W w.heap.size ap az cp cz := by subst hW; exact ⟨by go_simp, by go_simp, by go_simp, by go_simp, by go_simp⟩
    clear hW
    refine (szProfile_yes P _ _ (HV.out.below bW) hs').mono ?_
    rintro e w1 ⟨m, rfl, m0, m1, hb1⟩
    have b1 := bW.trans (hb1.mono bW.size)
    replace hbox := hbox.below hb1
    have HBX : Hid (P.BoxAt w1 w.heap.size ap az cp cz) := hbox
    obtain ⟨x0, x1, x2, x3, x4⟩ := hbox
    clear hb1 bW
    go_wp2_with fail
    refine (toProfile_any P _ _ (HV.out.below b1) hs').mono ?_
    rintro e w2 ⟨v2, rfl, hc2, hb2⟩
    have b2 := b1.trans (hb2.mono b1.size)
    have HB2 : Hid (P.BoxAt w2 w.heap.size ap az cp cz) := HBX.out.below hb2
    clear x0 x1 x2 x3 x4 hb2
    go_wp2_with fail
    refine (HSP.out _ _ hc2.lies).mono ?_
    rintro e w3 ⟨rfl, hb3⟩
    have b3 := b2.trans (hb3.mono b2.size)
    have HB3 : Hid (P.BoxAt w3 w.heap.size ap az cp cz) := HB2.out.below hb3
    have hbox3 := HB3.out
    obtain ⟨x0, x1, x2, x3, x4⟩ := hbox3
    clear hb3 hc2
    go_wp2_with fail
    refine (toProfile_any P _ _ (HV.out.below b3) hs').mono ?_
    rintro e w4 ⟨v4, rfl, hc4, hb4⟩
    have b4 := b3.trans (hb4.mono b3.size)
    have HB4 : Hid (P.BoxAt w4 w.heap.size ap az cp cz) := HB3.out.below hb4
    have HC4 : Hid (P.Copied w3.heap.size w4 v4) := hc4
    obtain ⟨g, h, rfl, _, _, _, _, hrow1, hrow2⟩ := hc4
    clear x0 x1 x2 x3 x4 hb4 hrow1 hrow2
    go_wp2_with fail
    obtain ⟨zb, hzb⟩ : ∃ zb, w4.heap.size = zb := ⟨_, rfl⟩
    rw [hzb]
    generalize hW5 : w4.alloc _ = W5
    have bq : Below w4.heap.size w4 W5 := by rw [← hW5]; exact (Below.refl _ _).alloc (Nat.le_refl _) _
    have b5 := b4.trans (bq.mono b4.size)
    have s5 : zb < W5.heap.size := by rw [← hW5, ← hzb]; simp
    have hX5 : P.BoxAt W5 zb (some ⟨g, 0, none⟩) (some ⟨h, 0, none⟩) P.np P.nz := by subst hW5 hzb; exact ⟨by go_simp, by go_simp, by go_simp, by go_simp, by go_simp⟩
    have HB5 : Hid (P.BoxAt W5 w.heap.size ap az cp cz) := HB4.out.below bq
    have hc5 := HC4.out.below bq
    clear hW5 bq HC4
    refine (HIM.out _ _ hc5.lies (HWW.out.below b5) (HTT.out.below b5)).mono ?_
    rintro e w6 ⟨rfl, hb6⟩
    have b6 := b5.trans (hb6.mono b5.size)
    have HL6 : Hid (P.Lies w6 (.agg #[.slice (some ⟨g, 0, none⟩) P.np P.np, .slice (some ⟨h, 0, none⟩) P.nz P.nz, .int .i64 P.train, .int .i64 P.fin, .int .i64 P.delay])) := (hc5.below hb6).lies
    have hX6 := hX5.below hb6
    have hB6 := HB5.out.below hb6
    have lw := hB6.lt
    have lz := hX6.lt
    obtain ⟨x0, x1, x2, x3, x4⟩ := hB6
    obtain ⟨y0, y1, y2, y3, y4⟩ := hX6
    clear hb6 hX5 hc5 b5 b4 b3 b2 b1
    go_wp2_with fail
    go_region_held3 (fun y => y.cell? ⟨w.heap.size, 0, none⟩ = some (.slice ap P.np cp) ∧ y.cell? ⟨w.heap.size, 1, none⟩ = some (.slice az P.nz cz) ∧ y.cell? ⟨w.heap.size, 2, none⟩ = some (.int .i64 P.train) ∧ y.cell? ⟨w.heap.size, 3, none⟩ = some (.int .i64 P.fin) ∧ y.cell? ⟨w.heap.size, 4, none⟩ = some (.int .i64 P.delay) ∧ y.cell? ⟨zb, 0, none⟩ = some (.slice (some ⟨g, 0, none⟩) P.np P.np) ∧ y.cell? ⟨zb, 1, none⟩ = some (.slice (some ⟨h, 0, none⟩) P.nz P.nz) ∧ y.cell? ⟨zb, 2, none⟩ = some (.int .i64 P.train) ∧ y.cell? ⟨zb, 3, none⟩ = some (.int .i64 P.fin) ∧ y.cell? ⟨zb, 4, none⟩ = some (.int .i64 P.delay)) (first | go_keep | (go_split_ands; refine ⟨?_, ?_, ?_, ?_, ?_, ?_, ?_, ?_, ?_, ?_⟩ <;> first | assumption | (rw [hb8.cell (by simp; omega)]; assumption) | (rw [hb7.cell (by simp; omega)]; assumption)))
      (first
        | (go_at_call 6; refine (toProfile_any P _ _ (HV.out.below b6.drew) hs').mono ?_; rintro e w7 ⟨v7, rfl, hc7, hb7⟩; have s7 : w6.heap.size ≤ w7.heap.size := by (have := hb7.size; simpa using this))
        | (go_at_call 8; refine (eqProfile_same P _ _ _ (HL6.out.below ((Below.refl _ _).drew.trans (hb7.mono (by simp)))) hc7.lies).mono ?_; rintro e w8 ⟨rfl, hb8⟩))
    all_goals go_wp2
    all_goals go_ret
    exact ⟨rfl, (b6.drew.trans (hb7.mono (by have := b6.size; simp; omega))).trans (hb8.mono (by have := b6.size; have := hb7.size; simp at this; omega))⟩

end Go.Proofs.YteodefmpkljedabDoor
