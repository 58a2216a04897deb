/-
  The program's ReadProfile.
-/
import Derived.Test.YteodefmpkljedaaDoorImplAs
import Derived.Test.YteodefmpkljedaaDoorImplOk2
import Derived.Test.YteodefmpkljedaaDoorSpecRead5
namespace Go.Proofs.YteodefmpkljedaaDoor
open Go.RowKit Go.Sort Go.Shelf
set_option linter.unusedVariables false
set_option linter.unusedSimpArgs false

def zeroV : Value := .agg #[nilS, nilS, .int .i64 0, .int .i64 0, .int .i64 0]
/-- What the inner reading hands back: a profile and no fault, or a fault. -/
def RightIn (T : Tld) (base : Nat) (e : Ending) (w' : World) : Prop :=
  (∃ sp sz, T.code = 0 ∧ T.at_ = 0 ∧ T.P.np ≤ 3000 ∧ T.P.nz ≤ 3000 ∧ e = .returned (.tuple #[.agg #[sp, sz, .int .i64 T.P.train, .int .i64 T.P.fin, .int .i64 T.P.delay], .nilIface]) ∧ T.Owned base w' sp sz) ∨ (T.P = zeroP ∧ e = .returned (.tuple #[zeroV, .iface 55 (.agg #[.int .i64 T.code, .int .i64 T.at_])]))

set_option maxRecDepth 20000 in
set_option maxHeartbeats 8000000 in
theorem right_any (t : List UInt8) (w : World) (hw : WordsAt w) (ht : t.length ≤ 9223372036854775807) :
    Calls Tryd.prog 19 #[.string ⟨t.toArray⟩] w fun e w' => RightIn (told t) w.heap.size e w' ∧ Below w.heap.size w w' := by
  by_cases hlen : 3000 < t.length
  · have hl : (3000 : Int) < (t.length : Int) := by omega
    have HT : Hid (told t = ⟨1, 3000, zeroP⟩) := if_pos hlen
    go_enter Tryd.func19, Tryd.ntmps19
    go_wp2
    refine bodyPost_ret (v := .tuple #[zeroV, .iface 55 (.agg #[.int .i64 1, .int .i64 3000])]) (by simp [zeroV, results, Tryd.results19, go_sem, *]) rfl ⟨Or.inr (by rw [HT.out]; exact ⟨rfl, rfl⟩), (Below.refl _ _).alloc (Nat.le_refl _) _⟩
  · have hl : decide ((3000 : Int) < (t.length : Int)) = false := by simp; omega
    have hl' : decide (3000 < t.length) = false := by simp; omega
    have HT : Hid (told t = toldOf (rtext t)) := if_neg hlen
    have ht3 : t.length ≤ 3000 := by omega
    have HW : Hid (WordsAt w) := hw
    clear hlen hw
    go_enter Tryd.func19, Tryd.ntmps19
    go_wp2_with fail
    obtain ⟨Ob, hOb⟩ : ∃ Ob, w.heap.size = Ob := ⟨_, rfl⟩
    rw [hOb]
    obtain ⟨W, hWE⟩ : ∃ W, w.alloc (.cells #[nilS, nilS, .int .i64 0, .int .i64 0, .int .i64 0] 26) = W := ⟨_, rfl⟩
    rw [hWE]
    have HB0 : Hid (Below w.heap.size w W) := by rw [← hWE]; exact (Below.refl _ _).alloc (Nat.le_refl _) _
    have HO0 : Hid (W.rowIs Ob 26 5 (p5 nilS nilS 0 0 0)) := by
      have := World.rowIs_alloc w #[nilS, nilS, .int .i64 0, .int .i64 0, .int .i64 0] 26 (p5 nilS nilS 0 0 0) (fun i hi => by simp at hi; match i, hi with | 0, _ => rfl | 1, _ => rfl | 2, _ => rfl | 3, _ => rfl | 4, _ => rfl)
      rw [hOb, hWE] at this
      exact this
    have HOB : Hid (w.heap.size = Ob) := hOb
    clear hWE hOb
    refine (profileIn_any t W (HW.out.below HB0.out) ht3).mono ?_
    rintro e w1 hc
    rcases hc with ⟨g, n, sp, sz, hX, l2, l3, rfl, hps, hzs, hb⟩ | ⟨m, hX, rfl, hb⟩
    · have HB1 : Hid (Below w.heap.size w w1) := HB0.out.trans (hb.mono HB0.out.size)
      have HO1 : Hid (w1.rowIs Ob 26 5 (p5 nilS nilS 0 0 0)) := HO0.out.of_block (hb.block Ob HO0.out.lt)
      have HTG : Hid (told t = toldOf (Rd.ok g n)) := by rw [← hX]; exact HT.out
      obtain ⟨av, cv, rfl, cv1, cv2, _⟩ := owned_shape hps
      obtain ⟨au, cu, rfl, cu1, cu2, _⟩ := owned_shape hzs
      rw [cellsP_pairs] at hps
      rw [cellsZ_triples] at hzs
      have HPS : Hid (w1.ownsRow W.heap.size 46 2 (.slice av g.ps.length cv) g.ps.length (pairs (profOf g).L (profOf g).B g.ps.length)) := hps
      have HZS : Hid (w1.ownsRow W.heap.size 49 3 (.slice au g.zs.length cu) g.zs.length (triples (profOf g).F (profOf g).T (profOf g).S g.zs.length)) := hzs
      have HLI : Hid ((profOf g).Lies w1 (.agg #[.slice av g.ps.length cv, .slice au g.zs.length cu, .int .i64 (g.t : Int), .int .i64 (g.e : Int), .int .i64 (g.d : Int)])) := ⟨av, cv, au, cu, rfl, ⟨by show g.ps.length ≤ _; omega, cv1⟩, by show g.zs.length ≤ _; omega, owned_row2 hps, owned_row3 hzs⟩
      have hWs : Ob < W.heap.size := HO0.out.lt
      clear hb hX hps hzs HB0 HO0 HT
      have cc1 := (profOf g).code_bounds
      have HCK : Hid (∀ y v, (profOf g).Lies y v → Calls Tryd.prog 15 #[v] y fun e w' => e = .returned (.int .i64 (profOf g).code) ∧ Below y.heap.size y w') := fun y v hv => implOk_any _ v y hv
      have HXA : Hid ((profOf g).code = 0 → told t = ⟨0, 0, profOf g⟩) := fun h => by rw [HTG.out, toldOf_ok _ h]
      have HXB : Hid (¬ (profOf g).code = 0 → told t = ⟨1 + (profOf g).code, 0, zeroP⟩) := fun h => by rw [HTG.out, toldOf_wrong _ h]
      generalize (profOf g).code = C at *
      clear HTG
      go_wp2_with fail
      obtain ⟨Pb, hPb⟩ : ∃ Pb, w1.heap.size = Pb := ⟨_, rfl⟩
      rw [hPb]
      obtain ⟨W2, hW2⟩ : ∃ W2, w1.alloc (.cells #[.slice av g.ps.length cv, .slice au g.zs.length cu, .int .i64 (g.t : Int), .int .i64 (g.e : Int), .int .i64 (g.d : Int)] 26) = W2 := ⟨_, rfl⟩
      rw [hW2]
      have b2 : Below w1.heap.size w1 W2 := by rw [← hW2]; exact (Below.refl _ _).alloc (Nat.le_refl _) _
      have HP2 : Hid (W2.rowIs Pb 26 5 (p5 (.slice av g.ps.length cv) (.slice au g.zs.length cu) g.t g.e g.d)) := by
        have := World.rowIs_alloc w1 #[.slice av g.ps.length cv, .slice au g.zs.length cu, .int .i64 (g.t : Int), .int .i64 (g.e : Int), .int .i64 (g.d : Int)] 26 (p5 (.slice av g.ps.length cv) (.slice au g.zs.length cu) g.t g.e g.d) (fun i hi => by simp at hi; match i, hi with | 0, _ => rfl | 1, _ => rfl | 2, _ => rfl | 3, _ => rfl | 4, _ => rfl)
        rw [hPb, hW2] at this
        exact this
      refine (HCK.out _ _ (HLI.out.below b2)).mono ?_
      rintro e w3 ⟨rfl, hb3⟩
      have B3 := b2.trans (hb3.mono b2.size)
      have HB3 : Hid (Below w.heap.size w w3) := HB1.out.trans (B3.mono HB1.out.size)
      have HO3 : Hid (w3.rowIs Ob 26 5 (p5 nilS nilS 0 0 0)) := HO1.out.of_block (B3.block Ob HO1.out.lt)
      have HP3 : Hid (w3.rowIs Pb 26 5 (p5 (.slice av g.ps.length cv) (.slice au g.zs.length cu) g.t g.e g.d)) := HP2.out.of_block (hb3.block Pb HP2.out.lt)
      have HPS3 : Hid (w3.ownsRow W.heap.size 46 2 (.slice av g.ps.length cv) g.ps.length (pairs (profOf g).L (profOf g).B g.ps.length)) := ownsRow_below HPS.out B3
      have HZS3 : Hid (w3.ownsRow W.heap.size 49 3 (.slice au g.zs.length cu) g.zs.length (triples (profOf g).F (profOf g).T (profOf g).S g.zs.length)) := ownsRow_below HZS.out B3
      have o0 : w3.cell? ⟨Ob, 0, none⟩ = some nilS := HO3.out.cell (i := 0) (by omega)
      have o1 : w3.cell? ⟨Ob, 1, none⟩ = some nilS := HO3.out.cell (i := 1) (by omega)
      have o2 : w3.cell? ⟨Ob, 2, none⟩ = some (.int .i64 0) := HO3.out.cell (i := 2) (by omega)
      have o3 : w3.cell? ⟨Ob, 3, none⟩ = some (.int .i64 0) := HO3.out.cell (i := 3) (by omega)
      have o4 : w3.cell? ⟨Ob, 4, none⟩ = some (.int .i64 0) := HO3.out.cell (i := 4) (by omega)
      have of := HO3.out.frozen
      obtain ⟨p0, p1, p2, p3, p4⟩ := loadPR HP3.out
      have HG7 : Hid (∀ v0 v1 v2 v3 v4, w3.grownBy (((((w3.setCell ⟨Ob, 0, none⟩ v0).setCell ⟨Ob, 1, none⟩ v1).setCell ⟨Ob, 2, none⟩ v2).setCell ⟨Ob, 3, none⟩ v3).setCell ⟨Ob, 4, none⟩ v4) (some Ob)) := fun v0 v1 v2 v3 v4 => by
        iterate 5 refine grown_tr ?_ (grown_set _ _ _ _)
        exact World.grownBy.refl _ _
      have HEND : Hid (∀ v0 v1 v2 v3 v4, Below w.heap.size w (((((w3.setCell ⟨Ob, 0, none⟩ v0).setCell ⟨Ob, 1, none⟩ v1).setCell ⟨Ob, 2, none⟩ v2).setCell ⟨Ob, 3, none⟩ v3).setCell ⟨Ob, 4, none⟩ v4)) := fun v0 v1 v2 v3 v4 => HB3.out.grown (HG7.out v0 v1 v2 v3 v4) HB3.out.size (fun k e => by have h1 := Option.some.inj e; have h2 := HOB.out; omega)
      clear hPb hW2 b2 hb3 B3 HB1 HO1 HP2 HPS HZS HLI HCK HO3 HP3 HB3
      by_cases hC : C = 0
      · subst hC
        have HTT : Hid (told t = ⟨0, 0, profOf g⟩) := HXA.out rfl
        clear HXA HXB
        go_wp2
        refine bodyPost_ret (v := .tuple #[.agg #[.slice av g.ps.length cv, .slice au g.zs.length cu, .int .i64 (g.t : Int), .int .i64 (g.e : Int), .int .i64 (g.d : Int)], .nilIface]) (by simp [results, Tryd.results19, go_sem, *]) rfl ⟨Or.inl ⟨.slice av g.ps.length cv, .slice au g.zs.length cu, ?_⟩, HEND.out _ _ _ _ _⟩
        rw [HTT.out]
        have h2 := HOB.out
        refine ⟨rfl, rfl, l2, l3, rfl, ?_, ?_⟩
        · exact ownsRow_base (owned_grown HPS3.out (HG7.out _ _ _ _ _) (fun j e he => by have h1 := ownsRow_block HPS3.out j he; have h2 := Option.some.inj e; omega)) (by omega)
        · exact ownsRow_base (owned_grown HZS3.out (HG7.out _ _ _ _ _) (fun j e he => by have h1 := ownsRow_block HZS3.out j he; have h2 := Option.some.inj e; omega)) (by omega)
      · have hCb : (C != 0) = true := by simp; omega
        have HTT : Hid (told t = ⟨1 + C, 0, zeroP⟩) := HXB.out hC
        clear HXA HXB hC
        go_wp2
        refine bodyPost_ret (v := .tuple #[zeroV, .iface 55 (.agg #[.int .i64 (1 + C), .int .i64 0])]) (by simp [zeroV, results, Tryd.results19, go_sem, *]) rfl ⟨Or.inr (by rw [HTT.out]; exact ⟨rfl, rfl⟩), HEND.out _ _ _ _ _⟩
    · have HB1 : Hid (Below w.heap.size w w1) := HB0.out.trans (hb.mono HB0.out.size)
      have HO1 : Hid (w1.rowIs Ob 26 5 (p5 nilS nilS 0 0 0)) := HO0.out.of_block (hb.block Ob HO0.out.lt)
      have HTG : Hid (told t = ⟨1, m, zeroP⟩) := by have := HT.out; rw [hX, toldOf_bad] at this; exact this
      have o0 : w1.cell? ⟨Ob, 0, none⟩ = some nilS := HO1.out.cell (i := 0) (by omega)
      have o1 : w1.cell? ⟨Ob, 1, none⟩ = some nilS := HO1.out.cell (i := 1) (by omega)
      have o2 : w1.cell? ⟨Ob, 2, none⟩ = some (.int .i64 0) := HO1.out.cell (i := 2) (by omega)
      have o3 : w1.cell? ⟨Ob, 3, none⟩ = some (.int .i64 0) := HO1.out.cell (i := 3) (by omega)
      have o4 : w1.cell? ⟨Ob, 4, none⟩ = some (.int .i64 0) := HO1.out.cell (i := 4) (by omega)
      have of := HO1.out.frozen
      have hOl := HO1.out.lt
      have HEND : Hid (∀ v0 v1 v2 v3 v4 o, Below w.heap.size w ((((((w1.setCell ⟨Ob, 0, none⟩ v0).setCell ⟨Ob, 1, none⟩ v1).setCell ⟨Ob, 2, none⟩ v2).setCell ⟨Ob, 3, none⟩ v3).setCell ⟨Ob, 4, none⟩ v4).alloc o)) := fun v0 v1 v2 v3 v4 o => by
        have h2 := HOB.out
        refine Below.alloc ?_ (by simp; exact HB1.out.size) _
        iterate 5 refine Below.setCell ?_ (by simp; omega) _
        exact HB1.out
      clear hb hX HB0 HO0 HT HO1 HB1
      go_wp2
      refine bodyPost_ret (v := .tuple #[zeroV, .iface 55 (.agg #[.int .i64 1, .int .i64 (m : Int)])]) (by simp [zeroV, results, Tryd.results19, go_sem, *]) rfl ⟨Or.inr (by rw [HTG.out]; exact ⟨rfl, rfl⟩), HEND.out _ _ _ _ _ _⟩

end Go.Proofs.YteodefmpkljedaaDoor
