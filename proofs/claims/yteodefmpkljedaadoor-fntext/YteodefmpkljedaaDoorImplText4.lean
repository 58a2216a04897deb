/-
  The program's WriteProfile.
-/
import Derived.Test.YteodefmpkljedaaDoorImplText3
import Derived.Test.YteodefmpkljedaaDoorImplOk2
namespace Go.Proofs.YteodefmpkljedaaDoor
open Go.RowKit Go.Sort Go.Shelf
set_option linter.unusedVariables false
set_option linter.unusedSimpArgs false

set_option maxRecDepth 20000 in
set_option maxHeartbeats 4000000 in
theorem implWrite_any (P : Prof) (v : Value) (w : World) (hl : P.Lies w v) (hw : WordsAt w) (ht : PowAt w) :
    Calls Tryd.prog 5 #[v] w fun e w' => e = .returned (.string ⟨P.textAns.toArray⟩) ∧ Below w.heap.size w w' := by
  have HV : Hid (P.Lies w v) := hl
  have HW : Hid (WordsAt w) := hw
  have HT : Hid (PowAt w) := ht
  obtain ⟨ap, cp, az, cz, rfl, hnp, hnz, hr2, hr3⟩ := hl
  clear hr2 hr3 hw ht
  obtain ⟨W0, hW0⟩ : ∃ W0, w.alloc (.cells #[.slice ap P.np cp, .slice az P.nz cz, .int .i64 P.train, .int .i64 P.fin, .int .i64 P.delay] 26) = W0 := ⟨_, rfl⟩
  obtain ⟨pb, hpb⟩ : ∃ pb, w.heap.size = pb := ⟨_, rfl⟩
  have bW : Below w.heap.size w W0 := by rw [← hW0]; exact (Below.refl _ _).alloc (Nat.le_refl _) _
  have hbx : P.BoxAt W0 pb ap az cp cz := by subst hW0 hpb; exact ⟨by go_simp, by go_simp, by go_simp, by go_simp, by go_simp⟩
  have HBX : Hid (P.BoxAt W0 pb ap az cp cz) := hbx
  have HB0 : Hid (Below w.heap.size w W0) := bW
  obtain ⟨x0, x1, x2, x3, x4⟩ := hbx
  clear bW
  go_enter Tryd.func5, Tryd.ntmps5
  go_wp2_with fail
  clear x0 x1 x2 x3 x4 hW0 hpb
  refine (implOk_any P _ W0 (HV.out.below HB0.out)).mono ?_
  rintro e w1 ⟨rfl, hb1⟩
  have HB1 : Hid (Below w.heap.size w w1) := HB0.out.trans (hb1.mono HB0.out.size)
  obtain ⟨x0, x1, x2, x3, x4⟩ := HBX.out.below hb1
  clear hb1
  by_cases h : P.code = 0
  · have hok : P.Ok := Prof.code_zero.1 h
    have HOK : Hid P.Ok := hok
    have HCZ : Hid (P.code = 0) := h
    rw [h]
    clear h hok
    go_wp2_with fail
    clear x0 x1 x2 x3 x4
    refine (textOf_any P _ w1 (HV.out.below HB1.out) HOK.out (HW.out.below HB1.out) (HT.out.below HB1.out)).mono ?_
    rintro e w2 ⟨rfl, hb2⟩
    have HB2 : Hid (Below w.heap.size w w2) := HB1.out.trans (hb2.mono HB1.out.size)
    clear hb2
    obtain ⟨L, hL⟩ : ∃ L, P.textL = L := ⟨_, rfl⟩
    have HL : Hid (P.textL = L) := hL
    rw [hL]
    clear hL
    by_cases c : L.length ≤ 3000
    · have HA : Hid (P.textAns = L) := by show P.textAns = L; rw [Prof.textAns, HL.out, if_pos ⟨HCZ.out, c⟩]
      have c1 : ¬ (3000 < (L.length : Int)) := by omega
      have c2 : ¬ (3000 < L.length) := by omega
      go_wp2
      go_ret
      exact ⟨by rw [HA.out]; rfl, HB2.out⟩
    · have HA : Hid (P.textAns = []) := by show P.textAns = []; rw [Prof.textAns, HL.out, if_neg (fun q => c q.2)]
      have c1 : (3000 < (L.length : Int)) := by omega
      have c2 : (3000 < L.length) := by omega
      go_wp2
      go_ret
      exact ⟨by rw [HA.out]; rfl, HB2.out⟩
  · have HA : Hid (P.textAns = []) := by show P.textAns = []; rw [Prof.textAns, if_neg (fun q => h q.1)]
    have h1 : (P.code != 0) = true := by simpa using h
    go_wp2
    go_ret
    exact ⟨by rw [HA.out]; rfl, HB1.out⟩

end Go.Proofs.YteodefmpkljedaaDoor
