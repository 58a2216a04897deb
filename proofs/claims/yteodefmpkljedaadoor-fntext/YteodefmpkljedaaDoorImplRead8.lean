/-
  The program's ReadProfile, whole.
-/
import Derived.Test.YteodefmpkljedaaDoorImplRead7
namespace Go.Proofs.YteodefmpkljedaaDoor
open Go.RowKit Go.Sort Go.Shelf
set_option linter.unusedVariables false
set_option linter.unusedSimpArgs false

/-- The library's handle of the type error, as it is laid. -/
def ErrT (w : World) : Prop := w.cell? ⟨1, 0, none⟩ = some (.iface 107 (.agg #[.pointer (some ⟨5, 51, none⟩)]))
theorem ErrT.below {w w1 : World} (h : ErrT w) (hb : Below w.heap.size w w1) : ErrT w1 := (hb.cell (p := ⟨1, 0, none⟩) (World.block_lt_of_cell? _ _ h)).trans h
theorem Tryd.iface_addr (w : World) (a : Addr) : (Instr.makeInterface 57 (.pointer (some a))).run Tryd.prog w = .ok (.iface 57 (.pointer (some a))) w := by kernel_rfl

set_option maxRecDepth 20000 in
set_option maxHeartbeats 8000000 in
theorem implRead_any (t : List UInt8) (w : World) (hw : WordsAt w) (hE : ErrT w) (ht : t.length ≤ 9223372036854775807) :
    Calls Tryd.prog 7 #[.string ⟨t.toArray⟩] w fun e w' => ∃ sp sz, e = .returned ((told t).val sp sz) ∧ (told t).Owned w.heap.size w' sp sz ∧ Below w.heap.size w w' := by
  have HW : Hid (WordsAt w) := hw
  have HE : Hid (ErrT w) := hE
  have HRT : Hid (∀ y, WordsAt y → Calls Tryd.prog 19 #[.string ⟨t.toArray⟩] y fun e w' => RightIn (told t) y.heap.size e w' ∧ Below y.heap.size y w') := fun y hy => right_any t y hy ht
  generalize told t = T at *
  clear hw hE
  go_enter Tryd.func7, Tryd.ntmps7
  go_wp2_with fail
  obtain ⟨Ob, hOb⟩ : ∃ Ob, w.heap.size = Ob := ⟨_, rfl⟩
  rw [hOb]
  obtain ⟨W, hWE⟩ : ∃ W, w.alloc (.cells #[.int .i64 0, .int .i64 0, nilS, nilS, .int .i64 0, .int .i64 0, .int .i64 0] 32) = W := ⟨_, rfl⟩
  rw [hWE]
  have HB0 : Hid (Below w.heap.size w W) := by rw [← hWE]; exact (Below.refl _ _).alloc (Nat.le_refl _) _
  have HO0 : Hid (W.rowIs Ob 32 7 z7) := by
    have := World.rowIs_alloc w #[.int .i64 0, .int .i64 0, nilS, nilS, .int .i64 0, .int .i64 0, .int .i64 0] 32 z7 (fun i hi => by simp at hi; match i, hi with | 0, _ => rfl | 1, _ => rfl | 2, _ => rfl | 3, _ => rfl | 4, _ => rfl | 5, _ => rfl | 6, _ => rfl)
    rw [hOb, hWE] at this
    exact this
  have HOB : Hid (w.heap.size = Ob) := hOb
  clear hWE hOb
  refine (HRT.out W (HW.out.below HB0.out)).mono ?_
  rintro e w1 ⟨hc, hb⟩
  have HB1 : Hid (Below w.heap.size w w1) := HB0.out.trans (hb.mono HB0.out.size)
  have HO1 : Hid (w1.rowIs Ob 32 7 z7) := HO0.out.of_block (hb.block Ob HO0.out.lt)
  have hWs : Ob < W.heap.size := HO0.out.lt
  clear hb HB0 HO0 HRT
  rcases hc with ⟨sp, sz, t1, t2, l2, l3, rfl, hps, hzs⟩ | ⟨t1, rfl⟩
  · obtain ⟨av, cv, rfl, _, _, _⟩ := owned_shape hps
    obtain ⟨au, cu, rfl, _, _, _⟩ := owned_shape hzs
    have HPS : Hid (w1.ownsRow W.heap.size 46 2 (.slice av T.P.np cv) T.P.np (pairs T.P.L T.P.B T.P.np)) := hps
    have HZS : Hid (w1.ownsRow W.heap.size 49 3 (.slice au T.P.nz cu) T.P.nz (triples T.P.F T.P.T T.P.S T.P.nz)) := hzs
    have HT1 : Hid (T.code = 0 ∧ T.at_ = 0) := ⟨t1, t2⟩
    have hOl : Ob < w1.heap.size := HO1.out.lt
    clear hps hzs t1 t2
    go_wp2_with fail
    obtain ⟨Pb, hPb⟩ : ∃ Pb, w1.heap.size = Pb := ⟨_, rfl⟩
    obtain ⟨Fb, hFb⟩ : ∃ Fb, Pb + 1 = Fb := ⟨_, rfl⟩
    rw [hPb, hFb]
    obtain ⟨W2, hW2⟩ : ∃ W2, (w1.alloc (.cells #[.slice av T.P.np cv, .slice au T.P.nz cu, .int .i64 T.P.train, .int .i64 T.P.fin, .int .i64 T.P.delay] 26)).alloc (.cells #[.int .i64 0, .int .i64 0] 55) = W2 := ⟨_, rfl⟩
    rw [hW2]
    have b2 : Below w1.heap.size w1 W2 := by rw [← hW2]; exact ((Below.refl _ _).alloc (Nat.le_refl _) _).alloc (by simp) _
    have HB2 : Hid (Below w.heap.size w W2) := HB1.out.trans (b2.mono HB1.out.size)
    have HO2 : Hid (W2.rowIs Ob 32 7 z7) := HO1.out.of_block (b2.block Ob HO1.out.lt)
    have HP2 : Hid (W2.rowIs Pb 26 5 (p5 (.slice av T.P.np cv) (.slice au T.P.nz cu) T.P.train T.P.fin T.P.delay)) := by
      have := (World.rowIs_alloc w1 #[.slice av T.P.np cv, .slice au T.P.nz cu, .int .i64 T.P.train, .int .i64 T.P.fin, .int .i64 T.P.delay] 26 (p5 (.slice av T.P.np cv) (.slice au T.P.nz cu) T.P.train T.P.fin T.P.delay) (fun i hi => by simp at hi; match i, hi with | 0, _ => rfl | 1, _ => rfl | 2, _ => rfl | 3, _ => rfl | 4, _ => rfl)).alloc (.cells #[.int .i64 0, .int .i64 0] 55)
      rw [hPb, hW2] at this
      exact this
    have HPS2 : Hid (W2.ownsRow W.heap.size 46 2 (.slice av T.P.np cv) T.P.np (pairs T.P.L T.P.B T.P.np)) := ownsRow_below HPS.out b2
    have HZS2 : Hid (W2.ownsRow W.heap.size 49 3 (.slice au T.P.nz cu) T.P.nz (triples T.P.F T.P.T T.P.S T.P.nz)) := ownsRow_below HZS.out b2
    clear hPb hFb hW2 b2 HB1 HO1 HPS HZS
    refine (as_nil _ W2).mono ?_
    rintro e w3 ⟨rfl, hw3⟩
    rw [hw3]
    clear hw3
    have o0 : W2.cell? ⟨Ob, 0, none⟩ = some (.int .i64 0) := HO2.out.cell (i := 0) (by omega)
    have o1 : W2.cell? ⟨Ob, 1, none⟩ = some (.int .i64 0) := HO2.out.cell (i := 1) (by omega)
    have o2 : W2.cell? ⟨Ob, 2, none⟩ = some (nilS) := HO2.out.cell (i := 2) (by omega)
    have o3 : W2.cell? ⟨Ob, 3, none⟩ = some (nilS) := HO2.out.cell (i := 3) (by omega)
    have o4 : W2.cell? ⟨Ob, 4, none⟩ = some (.int .i64 0) := HO2.out.cell (i := 4) (by omega)
    have o5 : W2.cell? ⟨Ob, 5, none⟩ = some (.int .i64 0) := HO2.out.cell (i := 5) (by omega)
    have o6 : W2.cell? ⟨Ob, 6, none⟩ = some (.int .i64 0) := HO2.out.cell (i := 6) (by omega)
    have of := HO2.out.frozen
    have HG7 : Hid (∀ v0 v1 v2 v3 v4 v5 v6, W2.grownBy (((((((W2.setCell ⟨Ob, 0, none⟩ v0).setCell ⟨Ob, 1, none⟩ v1).setCell ⟨Ob, 2, none⟩ v2).setCell ⟨Ob, 3, none⟩ v3).setCell ⟨Ob, 4, none⟩ v4).setCell ⟨Ob, 5, none⟩ v5).setCell ⟨Ob, 6, none⟩ v6) (some Ob)) := fun v0 v1 v2 v3 v4 v5 v6 => by
      iterate 7 refine grown_tr ?_ (grown_set _ _ _ _)
      exact World.grownBy.refl _ _
    have HEND : Hid (∀ v0 v1 v2 v3 v4 v5 v6, Below w.heap.size w (((((((W2.setCell ⟨Ob, 0, none⟩ v0).setCell ⟨Ob, 1, none⟩ v1).setCell ⟨Ob, 2, none⟩ v2).setCell ⟨Ob, 3, none⟩ v3).setCell ⟨Ob, 4, none⟩ v4).setCell ⟨Ob, 5, none⟩ v5).setCell ⟨Ob, 6, none⟩ v6)) := fun v0 v1 v2 v3 v4 v5 v6 => HB2.out.grown (HG7.out v0 v1 v2 v3 v4 v5 v6) HB2.out.size (fun k e => by have h1 := Option.some.inj e; have h2 := HOB.out; omega)
    obtain ⟨p0, p1, p2, p3, p4⟩ := loadPR HP2.out
    clear HO2 HB2 HP2
    go_wp2
    refine bodyPost_ret (v := .agg #[.int .i64 0, .int .i64 0, .slice av T.P.np cv, .slice au T.P.nz cu, .int .i64 T.P.train, .int .i64 T.P.fin, .int .i64 T.P.delay]) (by simp [results, Tryd.results7, go_sem, *]) rfl ⟨.slice av T.P.np cv, .slice au T.P.nz cu, ?_, ⟨?_, ?_⟩, HEND.out _ _ _ _ _ _ _⟩
    · unfold Tld.val
      rw [HT1.out.1, HT1.out.2]
    · have h2 := HOB.out
      exact ownsRow_base (owned_grown HPS2.out (HG7.out _ _ _ _ _ _ _) (fun j e he => by have h1 := ownsRow_block HPS2.out j he; have h2 := Option.some.inj e; omega)) (by omega)
    · have h2 := HOB.out
      exact ownsRow_base (owned_grown HZS2.out (HG7.out _ _ _ _ _ _ _) (fun j e he => by have h1 := ownsRow_block HZS2.out j he; have h2 := Option.some.inj e; omega)) (by omega)
  · have HT1 : Hid (T.P = zeroP) := t1
    clear t1
    unfold zeroV
    go_wp2_with fail
    obtain ⟨Pb, hPb⟩ : ∃ Pb, w1.heap.size = Pb := ⟨_, rfl⟩
    obtain ⟨Fb, hFb⟩ : ∃ Fb, Pb + 1 = Fb := ⟨_, rfl⟩
    rw [hPb, hFb]
    obtain ⟨W2, hW2⟩ : ∃ W2, (w1.alloc (.cells #[nilS, nilS, .int .i64 0, .int .i64 0, .int .i64 0] 26)).alloc (.cells #[.int .i64 0, .int .i64 0] 55) = W2 := ⟨_, rfl⟩
    rw [hW2]
    have b2 : Below w1.heap.size w1 W2 := by rw [← hW2]; exact ((Below.refl _ _).alloc (Nat.le_refl _) _).alloc (by simp) _
    have HB2 : Hid (Below w.heap.size w W2) := HB1.out.trans (b2.mono HB1.out.size)
    have HO2 : Hid (W2.rowIs Ob 32 7 z7) := HO1.out.of_block (b2.block Ob HO1.out.lt)
    have HF2 : Hid (W2.rowIs Fb 55 2 (pc 0 0)) := by
      have := World.rowIs_alloc (w1.alloc (.cells #[nilS, nilS, .int .i64 0, .int .i64 0, .int .i64 0] 26)) #[.int .i64 0, .int .i64 0] 55 (pc 0 0) (fun i hi => by simp at hi; match i, hi with | 0, _ => rfl | 1, _ => rfl)
      rw [World.size_alloc, hPb, hFb, hW2] at this
      exact this
    have hOF : Ob < Fb := by have := HO1.out.lt; omega
    have HE2 : Hid (ErrT W2) := HE.out.below HB2.out
    clear hPb hFb hW2 b2 HB1 HO1
    refine (as_hit Fb T.code T.at_ _ _ W2 HE2.out (HF2.out.cell (i := 0) (by omega)) (HF2.out.cell (i := 1) (by omega)) (HF2.out.frozen)).mono ?_
    rintro e w3 ⟨rfl, W3, rfl, hb3⟩
    have HF3 : Hid (((W3.setCell ⟨Fb, 0, none⟩ (.int .i64 T.code)).setCell ⟨Fb, 1, none⟩ (.int .i64 T.at_)).rowIs Fb 55 2 (pc T.code T.at_)) := (((HF2.out.of_block (hb3.block Fb HF2.out.lt)).set 0 _).set 1 _).congr (fun k hk => match k, hk with | 0, _ => rfl | 1, _ => rfl)
    have HO3 : Hid (((W3.setCell ⟨Fb, 0, none⟩ (.int .i64 T.code)).setCell ⟨Fb, 1, none⟩ (.int .i64 T.at_)).rowIs Ob 32 7 z7) := ((HO2.out.of_block (hb3.block Ob HO2.out.lt)).setOther (by simp; omega) _).setOther (by simp; omega) _
    have HB3 : Hid (Below w.heap.size w ((W3.setCell ⟨Fb, 0, none⟩ (.int .i64 T.code)).setCell ⟨Fb, 1, none⟩ (.int .i64 T.at_))) := by
      have h2 := HOB.out
      exact ((HB2.out.trans (hb3.mono HB2.out.size)).setCell (by simp; omega) _).setCell (by simp; omega) _
    obtain ⟨w3, hw3⟩ : ∃ w3, (W3.setCell ⟨Fb, 0, none⟩ (.int .i64 T.code)).setCell ⟨Fb, 1, none⟩ (.int .i64 T.at_) = w3 := ⟨_, rfl⟩
    rw [hw3] at HF3 HO3 HB3 ⊢
    clear hw3 hb3 HF2 HO2 HB2 HE2
    have q0 : w3.cell? ⟨Fb, 0, none⟩ = some (.int .i64 T.code) := HF3.out.cell (i := 0) (by omega)
    have q1 : w3.cell? ⟨Fb, 1, none⟩ = some (.int .i64 T.at_) := HF3.out.cell (i := 1) (by omega)
    have o0 : w3.cell? ⟨Ob, 0, none⟩ = some (.int .i64 0) := HO3.out.cell (i := 0) (by omega)
    have o1 : w3.cell? ⟨Ob, 1, none⟩ = some (.int .i64 0) := HO3.out.cell (i := 1) (by omega)
    have o2 : w3.cell? ⟨Ob, 2, none⟩ = some (nilS) := HO3.out.cell (i := 2) (by omega)
    have o3 : w3.cell? ⟨Ob, 3, none⟩ = some (nilS) := HO3.out.cell (i := 3) (by omega)
    have o4 : w3.cell? ⟨Ob, 4, none⟩ = some (.int .i64 0) := HO3.out.cell (i := 4) (by omega)
    have o5 : w3.cell? ⟨Ob, 5, none⟩ = some (.int .i64 0) := HO3.out.cell (i := 5) (by omega)
    have o6 : w3.cell? ⟨Ob, 6, none⟩ = some (.int .i64 0) := HO3.out.cell (i := 6) (by omega)
    have of := HO3.out.frozen
    have HG7 : Hid (∀ v0 v1 v2 v3 v4 v5 v6, w3.grownBy (((((((w3.setCell ⟨Ob, 0, none⟩ v0).setCell ⟨Ob, 1, none⟩ v1).setCell ⟨Ob, 2, none⟩ v2).setCell ⟨Ob, 3, none⟩ v3).setCell ⟨Ob, 4, none⟩ v4).setCell ⟨Ob, 5, none⟩ v5).setCell ⟨Ob, 6, none⟩ v6) (some Ob)) := fun v0 v1 v2 v3 v4 v5 v6 => by
      iterate 7 refine grown_tr ?_ (grown_set _ _ _ _)
      exact World.grownBy.refl _ _
    have HEND : Hid (∀ v0 v1 v2 v3 v4 v5 v6, Below w.heap.size w (((((((w3.setCell ⟨Ob, 0, none⟩ v0).setCell ⟨Ob, 1, none⟩ v1).setCell ⟨Ob, 2, none⟩ v2).setCell ⟨Ob, 3, none⟩ v3).setCell ⟨Ob, 4, none⟩ v4).setCell ⟨Ob, 5, none⟩ v5).setCell ⟨Ob, 6, none⟩ v6)) := fun v0 v1 v2 v3 v4 v5 v6 => HB3.out.grown (HG7.out v0 v1 v2 v3 v4 v5 v6) HB3.out.size (fun k e => by have h1 := Option.some.inj e; have h2 := HOB.out; omega)
    clear HF3 HO3 HB3
    go_wp2
    refine bodyPost_ret (v := .agg #[.int .i64 T.code, .int .i64 T.at_, nilS, nilS, .int .i64 0, .int .i64 0, .int .i64 0]) (by simp [results, Tryd.results7, go_sem, *]) rfl ⟨nilS, nilS, ?_, ?_, HEND.out _ _ _ _ _ _ _⟩
    · unfold Tld.val
      rw [HT1.out]
      rfl
    · unfold Tld.Owned
      rw [HT1.out]
      exact ⟨World.ownsRow_nil _ _ _ _, World.ownsRow_nil _ _ _ _⟩

end Go.Proofs.YteodefmpkljedaaDoor
