/-
  The program's Watch.
-/
import Derived.Test.YteodefmpkljedaaImplTick
import Derived.Test.YteodefmpkljedaaWatchAns
import Derived.Test.YteodefmpkljedaaImplSafe
import Derived.Deep.RegionHeld3
namespace Go.Proofs.Yteodefmpkljedaa
open Go.RowKit
attribute [local go_sem ↓] Go.wp_at_zero Go.wp_at_succ
set_option linter.unusedVariables false

/-- What holds while a train is watched: the result, the variable, the speeds' row, the course, the train. -/
def WI (P : Prof) (w w1 y : World) (Ob Bc Bt Base : Nat) (ap az : Option Addr) (cp cz g h n cn : Nat) (sv : Value) (k : Nat) (xs : List Value) (br at_ : Int) (t : Tr) : Prop :=
  y.rowIs (w.heap.size + 1) 31 4 (w4 false (.slice none 0 0) 0 0) ∧ y.rowIs Ob 31 4 (w4 true sv br at_) ∧ y.ownsRow Base 3 1 sv k xs ∧ P.CBox y Bc ap az cp cz g h n cn ∧ y.rowIs Bt 78 4 t.cell ∧ Below w1.heap.size w1 y ∧ Below w.heap.size w y ∧ Base ≤ y.heap.size
theorem Prof.CBox.grown {P : Prof} {w w1 : World} {row : Option Nat} {q : Nat} {ap az : Option Addr} {cp cz g h n cn : Nat} (k : P.CBox w q ap az cp cz g h n cn) (hg : w.grownBy w1 row) (hr : some q ≠ row) : P.CBox w1 q ap az cp cz g h n cn := by
  have hb := hg.block q k.lt hr
  obtain ⟨h0, h1, h2, h3, h4, h5, h6⟩ := k
  refine ⟨?_, ?_, ?_, ?_, ?_, ?_, ?_⟩ <;> (rw [World.cell?_of_block (by exact hb)]; assumption)
/-- The blocks in their order. -/
structure Ord (w w1 : World) (Ob Bc Bt Base : Nat) : Prop where
  a : w.heap.size + 1 < w1.heap.size
  b : w1.heap.size < Ob
  c : Ob < Bc
  d : Bc < Bt
  e : Bt < Base
section
variable {P : Prof} {w w1 y : World} {Ob Bc Bt Base : Nat} {ap az : Option Addr} {cp cz g h n cn : Nat} {sv : Value} {k : Nat} {xs : List Value} {br at_ : Int} {t : Tr}
theorem WI.below (H : WI P w w1 y Ob Bc Bt Base ap az cp cz g h n cn sv k xs br at_ t) {y1 : World} (hb : Below y.heap.size y y1) : WI P w w1 y1 Ob Bc Bt Base ap az cp cz g h n cn sv k xs br at_ t := by
  obtain ⟨o1, o2, o3, o4, o5, o6, o7, o8⟩ := H
  exact ⟨rowIs_below o1 hb, rowIs_below o2 hb, ownsRow_below o3 hb, o4.below hb, rowIs_below o5 hb, o6.trans (hb.mono o6.size), o7.trans (hb.mono o7.size), Nat.le_trans o8 hb.size⟩
theorem WI.tick (H : WI P w w1 y Ob Bc Bt Base ap az cp cz g h n cn sv k xs br at_ t) (O : Ord w w1 Ob Bc Bt Base) {y1 : World} {t' : Tr} (hg : y.grownBy y1 (some Bt)) (hr : y1.rowIs Bt 78 4 t'.cell) : WI P w w1 y1 Ob Bc Bt Base ap az cp cz g h n cn sv k xs br at_ t' := by
  obtain ⟨o1, o2, o3, o4, o5, o6, o7, o8⟩ := H
  obtain ⟨e1, e2, e3, e4, e5⟩ := O
  refine ⟨watch_row o1 hg (fun e => by have := Option.some.inj e; omega), watch_row o2 hg (fun e => by have := Option.some.inj e; omega), owned_grown o3 hg (fun j e he => by have h1 := ownsRow_block o3 j he; have h2 := Option.some.inj e; omega), o4.grown hg (fun e => by have := Option.some.inj e; omega), hr, o6.grown hg (o6.size) (fun j e => by have := Option.some.inj e; omega), o7.grown hg o7.size (fun j e => by have := Option.some.inj e; omega), Nat.le_trans o8 hg.size⟩
theorem WI.push (H : WI P w w1 y Ob Bc Bt Base ap az cp cz g h n cn sv k xs br at_ t) (O : Ord w w1 Ob Bc Bt Base) {y1 : World} {sv' : Value} {k' : Nat} {xs' : List Value} (hg : y.grownBy y1 sv.ownBlock) (hown : y1.ownsRow Base 3 1 sv' k' xs') :
    y1.rowIs Ob 31 4 (w4 true sv br at_) ∧ WI P w w1 (y1.setCell ⟨Ob, 1, none⟩ sv') Ob Bc Bt Base ap az cp cz g h n cn sv' k' xs' br at_ t := by
  obtain ⟨o1, o2, o3, o4, o5, o6, o7, o8⟩ := H
  obtain ⟨e1, e2, e3, e4, e5⟩ := O
  have hob := ownsRow_block o3
  have p1 := watch_row o1 hg (fun e => by have := hob _ e.symm; omega)
  have p2 := watch_row o2 hg (fun e => by have := hob _ e.symm; omega)
  have p4 := o4.grown hg (fun e => by have := hob _ e.symm; omega)
  have p5 := watch_row o5 hg (fun e => by have := hob _ e.symm; omega)
  have p6 := o6.grown hg o6.size (fun j e => by have := hob _ e; omega)
  have p7 := o7.grown hg o7.size (fun j e => by have := hob _ e; omega)
  have gs := watch_set y1 Ob 1 sv'
  exact ⟨p2, p1.setOther (by show w.heap.size + 1 ≠ Ob; omega) _, (p2.set 1 _).congr (cases4 rfl rfl rfl rfl), owned_grown hown gs (fun j e he => by have h1 := ownsRow_block hown j he; have h2 := Option.some.inj e; omega), p4.setOther (by omega) _ _, p5.setOther (by show Bt ≠ Ob; omega) _, p6.setCell (by show w1.heap.size ≤ Ob; omega) _, p7.setCell (by show w.heap.size ≤ Ob; omega) _, by have := hg.size; simpa [World.setCell] using Nat.le_trans o8 this⟩
theorem WI.set (H : WI P w w1 y Ob Bc Bt Base ap az cp cz g h n cn sv k xs br at_ t) (O : Ord w w1 Ob Bc Bt Base) (i : Nat) (v : Value) {br' at' : Int} (hf : ∀ j, j < 4 → (if j = i then v else w4 true sv br at_ j) = w4 true sv br' at' j) :
    WI P w w1 (y.setCell ⟨Ob, i, none⟩ v) Ob Bc Bt Base ap az cp cz g h n cn sv k xs br' at' t := by
  obtain ⟨o1, o2, o3, o4, o5, o6, o7, o8⟩ := H
  obtain ⟨e1, e2, e3, e4, e5⟩ := O
  have gs := watch_set y Ob i v
  exact ⟨o1.setOther (by show w.heap.size + 1 ≠ Ob; omega) _, (o2.set i _).congr hf, owned_grown o3 gs (fun j e he => by have h1 := ownsRow_block o3 j he; have h2 := Option.some.inj e; omega), o4.setOther (by omega) _ _, o5.setOther (by show Bt ≠ Ob; omega) _, o6.setCell (by show w1.heap.size ≤ Ob; omega) _, o7.setCell (by show w.heap.size ≤ Ob; omega) _, by simpa [World.setCell] using o8⟩
end

set_option maxHeartbeats 8000000 in
theorem implWatch_wrong (P : Prof) (v : Value) (x u : Int) (a : Option Addr) (n c : Nat) (w : World) (hl : P.Lies w v) (h : ¬ P.With x) :
    Calls Try.prog 15 #[v, .int .i64 x, .int .i64 u, .slice a n c] w fun e w' => e = .returned (.agg #[.bool false, .slice none 0 0, .int .i64 0, .int .i64 0]) ∧ Below w.heap.size w w' := by
  have HV : Hid (P.Lies w v) := hl
  have HA : Hid (¬ P.With x) := h
  obtain ⟨ap, cp, az, cz, rfl, hn, hn', hr2, hr3⟩ := hl
  clear hr2 hr3 h
  go_enter Try.func15, Try.ntmps15
  go_wp2_with fail
  generalize hW : (w.alloc _).alloc _ = W
  have bW : Below w.heap.size w W := by rw [← hW]; exact ((Below.refl _ _).alloc (Nat.le_refl _) _).alloc (by simp) _
  have rR : W.rowIs (w.heap.size + 1) 31 4 (w4 false (.slice none 0 0) 0 0) := by
    have := World.rowIs_alloc (w.alloc (.cells #[.slice ap P.np cp, .slice az P.nz cz, .int .i64 P.train, .int .i64 P.fin, .int .i64 P.delay] 26)) #[.bool false, .slice none 0 0, .int .i64 0, .int .i64 0] 31 (w4 false (.slice none 0 0) 0 0) (fun i hi => by simp at hi; match i, hi with | 0, _ => rfl | 1, _ => rfl | 2, _ => rfl | 3, _ => rfl)
    rw [World.size_alloc] at this
    rw [← hW]; exact this
  clear hW
  have hcon : Calls Try.prog 46 #[.agg #[.slice ap P.np cp, .slice az P.nz cz, .int .i64 P.train, .int .i64 P.fin, .int .i64 P.delay], .int .i64 x] W fun e w' => ∃ z : Nat, e = .returned (.tuple #[.agg #[.slice none 0 0, .slice none 0 0, .int .i64 0, .int .i64 0, .int .i64 0, .slice none 0 0, .slice none 0 z], .bool false]) ∧ Below W.heap.size W w' := (courseWith_no P _ x _ (HV.out.below bW) HA.out).mono (fun e w' q => ⟨0, q.1, q.2⟩)
  refine hcon.mono ?_
  clear hcon
  rintro e w2 ⟨zz, rfl, hb2⟩
  have b2 := bW.trans (hb2.mono bW.size)
  obtain ⟨W3, hW3⟩ : ∃ W3, w2.alloc (.cells #[.slice none 0 0, .slice none 0 0, .int .i64 0, .int .i64 0, .int .i64 0, .slice none 0 0, .slice none 0 zz] 71) = W3 := ⟨_, rfl⟩
  have b3 : Below w.heap.size w W3 := by rw [← hW3]; exact b2.alloc b2.size _
  have HZ3 : Hid (W3.rowIs (w.heap.size + 1) 31 4 (w4 false (.slice none 0 0) 0 0)) := by show World.rowIs _ _ _ _ _; rw [← hW3]; exact (rowIs_below rR hb2).alloc _
  have k0 := HZ3.out.cell (i := 0) (by omega)
  have k1 := HZ3.out.cell (i := 1) (by omega)
  have k2 := HZ3.out.cell (i := 2) (by omega)
  have k3 := HZ3.out.cell (i := 3) (by omega)
  have kf := HZ3.out.frozen
  simp only [w4] at k0 k1 k2 k3
  simp at k0 k1 k2 k3
  clear hb2 bW rR
  go_wp2
  refine bodyPost_ret (v := .agg #[.bool false, .slice none 0 0, .int .i64 0, .int .i64 0]) (by simp [results, Try.results15, go_sem, *]) rfl ⟨rfl, ?_⟩
  iterate 4 refine Below.setCell ?_ (by simp) _
  exact b3

set_option maxRecDepth 20000 in
set_option maxHeartbeats 16000000 in
theorem implWatch_slow (P : Prof) (v : Value) (x u : Int) (a : Option Addr) (n c : Nat) (w : World) (hl : P.Lies w v) (h : P.With x) (hn9 : n ≤ 9223372036854775807) (hno : 500 < n ∨ P.isSafe x u = false) :
    Calls Try.prog 15 #[v, .int .i64 x, .int .i64 u, .slice a n c] w fun e w' => e = .returned (.agg #[.bool false, .slice none 0 0, .int .i64 0, .int .i64 0]) ∧ Below w.heap.size w w' := by
  have HV : Hid (P.Lies w v) := hl
  have HA : Hid (P.With x) := h
  have HNO : Hid (500 < n ∨ P.isSafe x u = false) := hno
  have htot := Prof.total_less h.1.lens
  obtain ⟨_, g0, g1⟩ := h
  obtain ⟨ap, cp, az, cz, rfl, hn, hn', hr2, hr3⟩ := hl
  clear hr2 hr3 hno
  go_enter Try.func15, Try.ntmps15
  go_wp2_with fail
  generalize hW : (w.alloc _).alloc _ = W
  have bW : Below w.heap.size w W := by rw [← hW]; exact ((Below.refl _ _).alloc (Nat.le_refl _) _).alloc (by simp) _
  have rR : W.rowIs (w.heap.size + 1) 31 4 (w4 false (.slice none 0 0) 0 0) := by
    have := World.rowIs_alloc (w.alloc (.cells #[.slice ap P.np cp, .slice az P.nz cz, .int .i64 P.train, .int .i64 P.fin, .int .i64 P.delay] 26)) #[.bool false, .slice none 0 0, .int .i64 0, .int .i64 0] 31 (w4 false (.slice none 0 0) 0 0) (fun i hi => by simp at hi; match i, hi with | 0, _ => rfl | 1, _ => rfl | 2, _ => rfl | 3, _ => rfl)
    rw [World.size_alloc] at this
    rw [← hW]; exact this
  clear hW
  refine (courseWith_yes P _ x _ (HV.out.below bW) HA.out).mono ?_
  rintro e w1 ⟨v', rfl, hc, hb1⟩
  have b1 := bW.trans (hb1.mono bW.size)
  have HR1 : Hid (w1.rowIs (w.heap.size + 1) 31 4 (w4 false (.slice none 0 0) 0 0)) := rowIs_below rR hb1
  have HC1 : Hid (P.CourseIs w1 v') := hc
  obtain ⟨bp, dp, bz, dz, g, hh, nb, cn, b, rfl, hc⟩ := hc
  clear hb1 bW rR hc
  obtain ⟨W2, hW2⟩ : ∃ W2, w1.alloc (.cells #[.slice bp P.np dp, .slice bz P.nz dz, .int .i64 P.train, .int .i64 P.fin, .int .i64 P.delay, .slice (some ⟨g, 0, none⟩) P.np P.np, .slice (some ⟨hh, 0, none⟩) nb cn] 71) = W2 := ⟨_, rfl⟩
  have bq2 : Below w1.heap.size w1 W2 := by rw [← hW2]; exact (Below.refl _ _).alloc (Nat.le_refl _) _
  have b2 := b1.trans (bq2.mono b1.size)
  have HX2 : Hid (P.CBox W2 w1.heap.size bp bz dp dz g hh nb cn) := by show Prof.CBox _ _ _ _ _ _ _ _ _ _ _; subst hW2; exact ⟨by go_simp, by go_simp, by go_simp, by go_simp, by go_simp, by go_simp, by go_simp⟩
  have HZ2 : Hid (W2.rowIs (w.heap.size + 1) 31 4 (w4 false (.slice none 0 0) 0 0)) := rowIs_below HR1.out bq2
  have hbx := HX2.out
  obtain ⟨x0, x1, x2, x3, x4, x5, x6⟩ := hbx
  by_cases h5 : 500 < n
  · have h5i : (500 : Int) < (n : Int) := by omega
    have k0 := HZ2.out.cell (i := 0) (by omega)
    have k1 := HZ2.out.cell (i := 1) (by omega)
    have k2 := HZ2.out.cell (i := 2) (by omega)
    have k3 := HZ2.out.cell (i := 3) (by omega)
    have kf := HZ2.out.frozen
    simp only [w4] at k0 k1 k2 k3
    simp at k0 k1 k2 k3
    go_wp2
    refine bodyPost_ret (v := .agg #[.bool false, .slice none 0 0, .int .i64 0, .int .i64 0]) (by simp [results, Try.results15, go_sem, *]) rfl ⟨rfl, ?_⟩
    iterate 4 refine Below.setCell ?_ (by simp) _
    exact b2
  · have h5' : decide (500 < (n : Int)) = false := by simp; omega
    have HSF : Hid (P.isSafe x u = false) := by
      rcases HNO.out with q | q
      · omega
      · exact q
    go_wp2_with fail
    refine (isSafe_any P _ x u _ (HC1.out.below bq2) HA.out.1.fit g0 (by omega)).mono ?_
    rintro e w3 ⟨rfl, hb3⟩
    rw [HSF.out]
    have b3 := b2.trans (hb3.mono b2.size)
    have HZ3 : Hid (w3.rowIs (w.heap.size + 1) 31 4 (w4 false (.slice none 0 0) 0 0)) := rowIs_below HZ2.out hb3
    have k0 := HZ3.out.cell (i := 0) (by omega)
    have k1 := HZ3.out.cell (i := 1) (by omega)
    have k2 := HZ3.out.cell (i := 2) (by omega)
    have k3 := HZ3.out.cell (i := 3) (by omega)
    have kf := HZ3.out.frozen
    simp only [w4] at k0 k1 k2 k3
    simp at k0 k1 k2 k3
    clear x0 x1 x2 x3 x4 x5 x6 hb3
    go_wp2
    refine bodyPost_ret (v := .agg #[.bool false, .slice none 0 0, .int .i64 0, .int .i64 0]) (by simp [results, Try.results15, go_sem, *]) rfl ⟨rfl, ?_⟩
    iterate 4 refine Below.setCell ?_ (by simp) _
    exact b3

theorem implWatch_no (P : Prof) (v : Value) (x u : Int) (a : Option Addr) (n c : Nat) (z : Nat → Int) (w : World) (hl : P.Lies w v) (hz : Row1 w a n z) (hn : n ≤ 9223372036854775807) (h : P.watchable n x u = false) :
    Calls Try.prog 15 #[v, .int .i64 x, .int .i64 u, .slice a n c] w fun e w' => e = .returned (.agg #[.bool false, .slice none 0 0, .int .i64 0, .int .i64 0]) ∧ Below w.heap.size w w' := by
  by_cases hw : P.With x
  · refine implWatch_slow P v x u a n c w hl hw hn ?_
    unfold Prof.watchable at h
    by_cases q : 500 < n
    · exact Or.inl q
    · right
      have e1 : decide (n ≤ 500) = true := by simp; omega
      rw [e1] at h
      cases hs : P.isSafe x u with
      | false => rfl
      | true =>
        obtain ⟨u0, u1, us⟩ := Prof.isSafe_iff.1 hs
        rw [Prof.good_yes hw u0 u1, us] at h
        cases h
  · exact implWatch_wrong P v x u a n c w hl hw

set_option maxRecDepth 20000 in
set_option maxHeartbeats 80000000 in
theorem implWatch_yes (P : Prof) (v : Value) (x u : Int) (a : Option Addr) (n c : Nat) (z : Nat → Int) (w : World) (hl : P.Lies w v) (hz : Row1 w a n z) (h : P.watchable n x u = true) :
    Calls Try.prog 15 #[v, .int .i64 x, .int .i64 u, .slice a n c] w fun e w' => ∃ v', e = .returned (.agg #[.bool true, v', .int .i64 (P.wst x u z n).braked, .int .i64 (P.wst x u z n).x]) ∧ w'.ownsRow w.heap.size 3 1 v' n (singles (P.wSpeed x u z) n) ∧ Below w.heap.size w w' := by
  have HV : Hid (P.Lies w v) := hl
  have HZ : Hid (Row1 w a n z) := hz
  obtain ⟨i0, hi, hz0, hz1, hz2⟩ := info_parts Try.infoIntW
  obtain ⟨h5, hg, hs⟩ : n ≤ 500 ∧ P.good x u = true ∧ P.safe 0 x u = true := by
    unfold Prof.watchable at h
    simpa using h
  obtain ⟨hwx, g2, g3⟩ := Prof.good_with hg
  have HA : Hid (P.With x) := hwx
  obtain ⟨hok, g0, g1⟩ := hwx
  have HOK : Hid P.Ok := hok
  have HFIT : Hid P.Fit := hok.fit
  have htot := Prof.total_less hok.lens
  obtain ⟨f0, f1⟩ := hok.fit.fin
  obtain ⟨d0, d1⟩ := hok.delay
  have HI : Hid (∀ k, P.WInv x k (P.wst x u z k)) := Prof.wst_inv hok.rates z g0 g2 g3 hs
  have HSF : Hid (P.isSafe x u = true) := Prof.isSafe_iff.2 ⟨g2, g3, hs⟩
  obtain ⟨ap, cp, az, cz, rfl, hnp, hnz, hr2, hr3⟩ := hl
  have h5' : decide (500 < (n : Int)) = false := by simp; omega
  clear hr2 hr3 hz h hg hs hok
  go_enter Try.func15, Try.ntmps15
  go_wp2_with fail
  generalize hW : (w.alloc _).alloc _ = W
  have bW : Below w.heap.size w W := by rw [← hW]; exact ((Below.refl _ _).alloc (Nat.le_refl _) _).alloc (by simp) _
  have sW : W.heap.size = w.heap.size + 2 := by rw [← hW]; simp
  have rR : W.rowIs (w.heap.size + 1) 31 4 (w4 false (.slice none 0 0) 0 0) := by
    have := World.rowIs_alloc (w.alloc (.cells #[.slice ap P.np cp, .slice az P.nz cz, .int .i64 P.train, .int .i64 P.fin, .int .i64 P.delay] 26)) #[.bool false, .slice none 0 0, .int .i64 0, .int .i64 0] 31 (w4 false (.slice none 0 0) 0 0) (fun i hi => by simp at hi; match i, hi with | 0, _ => rfl | 1, _ => rfl | 2, _ => rfl | 3, _ => rfl)
    rw [World.size_alloc] at this
    rw [← hW]; exact this
  clear hW
  refine (courseWith_yes P _ x _ (HV.out.below bW) HA.out).mono ?_
  rintro e w1 ⟨v', rfl, hc, hb1⟩
  have b1 := bW.trans (hb1.mono bW.size)
  have s1 := hb1.size
  have HR1 : Hid (w1.rowIs (w.heap.size + 1) 31 4 (w4 false (.slice none 0 0) 0 0)) := rowIs_below rR hb1
  have HC1 : Hid (P.CourseIs w1 v') := hc
  obtain ⟨bp, dp, bz, dz, g, hh, nb, cn, b, rfl, hc⟩ := hc
  clear hb1 bW rR hc
  obtain ⟨W2, hW2⟩ : ∃ W2, w1.alloc (.cells #[.slice bp P.np dp, .slice bz P.nz dz, .int .i64 P.train, .int .i64 P.fin, .int .i64 P.delay, .slice (some ⟨g, 0, none⟩) P.np P.np, .slice (some ⟨hh, 0, none⟩) nb cn] 71) = W2 := ⟨_, rfl⟩
  have bq2 : Below w1.heap.size w1 W2 := by rw [← hW2]; exact (Below.refl _ _).alloc (Nat.le_refl _) _
  have b2 := b1.trans (bq2.mono b1.size)
  have HX2 : Hid (P.CBox W2 w1.heap.size bp bz dp dz g hh nb cn) := by show Prof.CBox _ _ _ _ _ _ _ _ _ _ _; subst hW2; exact ⟨by go_simp, by go_simp, by go_simp, by go_simp, by go_simp, by go_simp, by go_simp⟩
  have hbx := HX2.out
  obtain ⟨x0, x1, x2, x3, x4, x5, x6⟩ := hbx
  go_wp2_with fail
  refine (isSafe_any P _ x u _ (HC1.out.below bq2) HFIT.out g0 (by omega)).mono ?_
  rintro e w3 ⟨rfl, hb3⟩
  rw [HSF.out]
  have b3 := b2.trans (hb3.mono b2.size)
  have bq3 : Below w1.heap.size w1 w3 := bq2.trans (hb3.mono bq2.size)
  have s3 := hb3.size
  have HX3 : Hid (P.CBox w3 w1.heap.size bp bz dp dz g hh nb cn) := HX2.out.below hb3
  have HR3 : Hid (w3.rowIs (w.heap.size + 1) 31 4 (w4 false (.slice none 0 0) 0 0)) := rowIs_below (rowIs_below HR1.out bq2) hb3
  have l3 : w1.heap.size < w3.heap.size := HX3.out.lt
  clear x0 x1 x2 x3 x4 x5 x6 hb3 HX2 HR1 hW2
  obtain ⟨W4, hW4⟩ : ∃ W4, w3.alloc (.cells #[.bool true, .slice none 0 0, .int .i64 0, .int .i64 x] 31) = W4 := ⟨_, rfl⟩
  have bq4 : Below w3.heap.size w3 W4 := by rw [← hW4]; exact (Below.refl _ _).alloc (Nat.le_refl _) _
  have s4 : W4.heap.size = w3.heap.size + 1 := by rw [← hW4]; simp
  have b4 := b3.trans (bq4.mono b3.size)
  have HO4 : Hid (W4.rowIs w3.heap.size 31 4 (w4 true (.slice none 0 0) 0 x)) := by
    show World.rowIs _ _ _ _ _
    rw [← hW4]
    exact World.rowIs_alloc w3 #[.bool true, .slice none 0 0, .int .i64 0, .int .i64 x] 31 (w4 true (.slice none 0 0) 0 x) (fun i hi => by simp at hi; match i, hi with | 0, _ => rfl | 1, _ => rfl | 2, _ => rfl | 3, _ => rfl)
  obtain ⟨x0, x1, x2, x3, x4, x5, x6⟩ := HX3.out.below bq4
  go_wp2_with fail
  have l4 : w1.heap.size < W4.drew.heap.size := by simp; omega
  go_region_held3 (fun y => y.cell? ⟨w1.heap.size, 0, none⟩ = some (.slice bp P.np dp) ∧ y.cell? ⟨w1.heap.size, 1, none⟩ = some (.slice bz P.nz dz) ∧ y.cell? ⟨w1.heap.size, 2, none⟩ = some (.int .i64 P.train) ∧ y.cell? ⟨w1.heap.size, 3, none⟩ = some (.int .i64 P.fin) ∧ y.cell? ⟨w1.heap.size, 4, none⟩ = some (.int .i64 P.delay) ∧ y.cell? ⟨w1.heap.size, 5, none⟩ = some (.slice (some ⟨g, 0, none⟩) P.np P.np) ∧ y.cell? ⟨w1.heap.size, 6, none⟩ = some (.slice (some ⟨hh, 0, none⟩) nb cn)) (first | go_keep | (go_split_ands; refine ⟨?_, ?_, ?_, ?_, ?_, ?_, ?_⟩ <;> (first | (rw [hb6.cell (by simpa using l5)]; assumption) | (rw [hb5.cell (by simpa using l4)]; assumption))))
      (first | (go_at_call 49; refine (sent_any P bp bz dp dz g hh nb cn x u _ d0 d1).mono ?_; rintro e w5 ⟨rfl, hb5⟩; unfold Prof.sent Tr.val; dsimp only; have l5 : w1.heap.size < w5.heap.size := Nat.lt_of_lt_of_le l4 hb5.size) | (go_at_call 48; refine (watching_any P bp bz dp dz g hh nb cn u x x (P.delay + 1) _).mono ?_; rintro e w6 ⟨rfl, hx6, hr6, hs6, hb6⟩))
  have b5 : Below W4.heap.size W4 w5 := (Below.refl _ _).drew.trans hb5
  have b6 : Below W4.heap.size W4 w6 := b5.trans (hb6.mono b5.size)
  have s5 := b5.size
  have O : Ord w w1 w3.heap.size w5.heap.size (w5.heap.size + 1) w6.heap.size := ⟨by omega, by omega, by omega, by omega, by omega⟩
  have H6 : Hid (WI P w w1 w6 w3.heap.size w5.heap.size (w5.heap.size + 1) w6.heap.size bp bz dp dz g hh nb cn (.slice none 0 0) 0 [] 0 x ⟨u, x, x, P.delay + 1⟩) := by
    refine ⟨rowIs_below (rowIs_below HR3.out bq4) b6, rowIs_below HO4.out b6, World.ownsRow_nil _ _ _ _, hx6, hr6, ?_, b4.trans (b6.mono b4.size), Nat.le_refl _⟩
    exact bq3.trans ((bq4.mono bq3.size).trans (b6.mono (by have := bq3.size; omega)))
  clear x0 x1 x2 x3 x4 x5 x6 hx6 hr6 hb5 hb6 hs6 b5 b6 HO4 HR3 HX3 bq4 b4 b3 bq3 bq2 b2 hW4
  go_wp2_with fail
  generalize w5.heap.size + 1 = Bt at *
  generalize w5.heap.size = Bc at *
  generalize w6.heap.size = Base at *
  generalize w3.heap.size = Ob at *
  have HORD : Hid (Ord w w1 Ob Bc Bt Base) := O
  obtain ⟨o1, o2, o3, o4, o5⟩ := O
  go_loopw [48] (fun i wr => ∃ (k : Nat) (vv : Value), k ≤ n ∧ i = .int .i64 k ∧ Hid (WI P w w1 wr Ob Bc Bt Base bp bz dp dz g hh nb cn vv k (singles (P.wSpeed x u z) k) (P.wst x u z k).braked (P.wst x u z k).x (P.wtr k (P.wst x u z k)))) (fun i _ => n - (intOf i).toNat)
  case atStart => exact ⟨0, _, Nat.zero_le _, rfl, H6.out⟩
  case round =>
    clear H6
    obtain ⟨k, vv, hk, rfl, HH⟩ := hrel
    obtain ⟨av, cv, rfl, _, _, _⟩ := owned_shape HH.out.2.2.1
    by_cases hlt : k < n
    · have hkI : (k : Int) < (n : Int) := by omega
      rcases HZ.out with e0 | ⟨bb, off, rfl, hbb, hcz⟩
      · omega
      have c0 : wr.cell? ⟨bb, off + k, none⟩ = some (.int .i64 (z k)) := by rw [HH.out.2.2.2.2.2.2.1.cell hbb]; exact hcz k hlt
      clear hcz
      have hIk := HI.out k
      have HIn : Hid (P.WInv x (k + 1) (P.wst x u z (k + 1))) := HI.out (k + 1)
      have HST : Hid (P.wst x u z (k + 1) = P.wstep k (P.wst x u z k) (z k)) := rfl
      have HSP : Hid (P.wSpeed x u z k = (P.wst x u z (k + 1)).v) := rfl
      have hat := Prof.wtr_at hIk
      obtain ⟨⟨t0, t1⟩, ⟨t2, t3⟩, ⟨t4, t5⟩, _⟩ := Prof.wtr_in HFIT.out hIk
      have HSTEP : Hid (P.tick (P.wtr k (P.wst x u z k)) (z k) = P.wtr (k + 1) (P.wst x u z (k + 1))) := by
        show _ = _
        rw [HST.out]
        exact Prof.wtr_step d0 hIk (fun e => P.wst_n0 x u z e) (z k)
      have HBR : Hid ((P.wst x u z (k + 1)).braked = if P.isSafe (P.wst x u z k).x (z k) = true then (P.wst x u z k).braked else (P.wst x u z k).braked + 1) := by
        show _ = _
        rw [HST.out]
        exact P.wst_braked k _ (z k)
      have hbr0 := hIk.2.2.2.2.2.2.2.2.2.1
      have hbr1 := hIk.2.2.2.2.2.2.2.2.2.2.1
      clear hIk
      generalize P.wtr k (P.wst x u z k) = tr at *
      obtain ⟨ts, tb, ta, tk⟩ := tr
      dsimp only at hat t0 t1 t2 t3 t4 t5
      generalize P.wst x u z k = st at *
      obtain ⟨sx, sv, was, sn, br⟩ := st
      dsimp only at hat hbr0 hbr1 HBR HH
      subst hat
      have hTICK : Hid (Calls Try.prog 101 #[.int .i64 (z k), .pointer (some ⟨Bc, 0, none⟩), .pointer (some ⟨Bt, 0, none⟩)] wr fun e w' => ∃ s' b' a' k', P.tick ⟨ts, tb, ta, tk⟩ (z k) = ⟨s', b', a', k'⟩ ∧ e = .returned (.tuple #[.agg #[.int .i64 s', .int .i64 b', .int .i64 a', .int .i64 k'], .bool (!P.isSafe ta (z k))]) ∧ w'.rowIs Bt 78 4 (Tr.cell ⟨s', b', a', k'⟩) ∧ wr.grownBy w' (some Bt)) := tick_any P Bc Bt bp bz dp dz g hh nb cn ts tb ta tk (z k) w1 wr (by omega) HH.out.2.2.2.1 HH.out.2.2.2.2.1 HC1.out HH.out.2.2.2.2.2.1 (by omega) HFIT.out t0 t1 t2 t3 t4 t5
      go_wp2_with fail
      refine hTICK.out.mono ?_
      rintro e y2 ⟨s', b', a', k', htick, rfl, hr2, hg2⟩
      have HY2 := HH.out.tick HORD.out hg2 hr2
      have htn : P.wtr (k + 1) (P.wst x u z (k + 1)) = ⟨s', b', a', k'⟩ := by rw [← HSTEP.out, htick]
      have HTN : Hid (P.wtr (k + 1) (P.wst x u z (k + 1)) = ⟨s', b', a', k'⟩) := htn
      have hsp : P.wSpeed x u z k = s' := by
        have := (Prof.wtr_in HFIT.out HIn.out).2.2.2
        rw [htn] at this
        rw [HSP.out]
        exact this.symm
      have HSPD : Hid (P.wSpeed x u z k = s') := hsp
      have hxx : (P.wst x u z (k + 1)).x = a' := by
        have := Prof.wtr_at HIn.out
        rw [htn] at this
        exact this.symm
      have HXX : Hid ((P.wst x u z (k + 1)).x = a') := hxx
      clear htick hTICK hr2 hg2 htn hsp hxx c0 HH t0 t1 t2 t3 t4 t5 HSTEP
      obtain ⟨W7, hW7⟩ : ∃ W7, y2.alloc (.cells #[.int .i64 s', .int .i64 b', .int .i64 a', .int .i64 k'] 78) = W7 := ⟨_, rfl⟩
      have bq7 : Below y2.heap.size y2 W7 := by rw [← hW7]; exact (Below.refl _ _).alloc (Nat.le_refl _) _
      have s7 : W7.heap.size = y2.heap.size + 1 := by rw [← hW7]; simp
      have HY7 : Hid (WI P w w1 W7 Ob Bc Bt Base bp bz dp dz g hh nb cn (.slice av k cv) k (singles (P.wSpeed x u z) k) br ta ⟨s', b', a', k'⟩) := HY2.below bq7
      have HT7 : Hid (W7.rowIs y2.heap.size 78 4 (Tr.cell ⟨s', b', a', k'⟩)) := by
        show World.rowIs _ _ _ _ _
        rw [← hW7]
        exact World.rowIs_alloc y2 #[.int .i64 s', .int .i64 b', .int .i64 a', .int .i64 k'] 78 (Tr.cell ⟨s', b', a', k'⟩) (fun i hi => by simp at hi; simp [Tr.cell, hi])
      have hB2 : Base ≤ y2.heap.size := HY2.2.2.2.2.2.2.2
      have hOwn := ownsRow_block HY2.2.2.1
      have HLT : Hid (∀ j, (Value.slice av k cv).ownBlock = some j → j < y2.heap.size) := fun j hj => (HY2.2.2.1.lt j hj).2
      clear HY2 bq7 hOwn
      have q1 : W7.cell? ⟨Ob, 1, none⟩ = some (.slice av k cv) := HY7.out.2.1.cell (i := 1) (by omega)
      have u0 := HT7.out.cell (i := 0) (by omega)
      simp only [Tr.cell] at u0
      have HYO : Hid (World.ownsRow W7 Base 3 1 (.slice av k cv) k (singles (P.wSpeed x u z) k)) := HY7.out.2.2.1
      have HBS : Hid (Base ≤ (W7.alloc (.cells #[.int .i64 s'] 3)).heap.size) := by show Base ≤ _; simp; omega
      cases hsf : P.isSafe ta (z k) with
      | false =>
        rw [hsf] at HBR
        clear hsf
        go_wp2_with (first | (at_builtin; refine wpList_append_own _ rfl _ _ 27 rfl Base 3 i0 (.int .i64 0) 1 8 Try.underlying27 hi hz0 hz1 hz2 rfl (by decide) _ _ _ rfl (HYO.out.alloc _) ⟨y2.heap.size + 1, 0, none⟩ 1 1 [.int .i64 s'] rfl rfl (alloc_add1 _ _ _ _ s7) (by simp [Value.oneCell']) (by unfold maxLen; omega) (by omega) HBS.out ?_))
        intro v9 w9 hown9 hgrow9 _
        obtain ⟨av9, cv9, rfl, _, _, _⟩ := owned_shape hown9
        have HP := (HY7.out.below ((Below.refl _ _).alloc (Nat.le_refl _) _)).push HORD.out hgrow9 (show World.ownsRow _ Base 3 1 (.slice av9 (k + 1) cv9) (k + 1) (singles (P.wSpeed x u z) (k + 1)) from (by rw [singles, HSPD.out]; exact hown9))
        have HT9 : Hid (w9.rowIs y2.heap.size 78 4 (Tr.cell ⟨s', b', a', k'⟩)) := watch_row (HT7.out.alloc _) hgrow9 (fun e => by have := HLT.out _ e.symm; omega)
        have z1 : w9.cell? ⟨Ob, 1, none⟩ = some (.slice av k cv) := HP.1.cell (i := 1) (by omega)
        have z2 : w9.cell? ⟨Ob, 2, none⟩ = some (.int .i64 br) := HP.1.cell (i := 2) (by omega)
        have z3 : w9.cell? ⟨Ob, 3, none⟩ = some (.int .i64 ta) := HP.1.cell (i := 3) (by omega)
        have zf := HP.1.frozen
        have v2 := HT9.out.cell (i := 2) (by omega)
        simp only [Tr.cell] at v2
        have hneO : ¬ (Ob = y2.heap.size) := by omega
        have hneO' : ¬ (y2.heap.size = Ob) := by omega
        have H10 := HP.2.set HORD.out 3 (.int .i64 a') (br' := br) (at' := a') (cases4 rfl rfl rfl rfl)
        have H11 : Hid (WI P w w1 _ Ob Bc Bt Base bp bz dp dz g hh nb cn (.slice av9 (k + 1) cv9) (k + 1) (singles (P.wSpeed x u z) (k + 1)) (br + 1) a' ⟨s', b', a', k'⟩) := H10.set HORD.out 2 (.int .i64 (br + 1)) (cases4 rfl rfl rfl rfl)
        replace HBR : Hid ((P.wst x u z (k + 1)).braked = br + 1) := by show _ = _; rw [HBR.out]; rfl
        clear HP hown9 hgrow9 u0 q1 hW7
        go_wp2
        go_roundw
        case rel =>
          refine ⟨k + 1, .slice av9 (k + 1) cv9, by omega, by go_num, ?_⟩
          show WI _ _ _ _ _ _ _ _ _ _ _ _ _ _ _ _ _ _ _ _ _ _
          rw [HXX.out, HTN.out, HBR.out]
          exact H11.out
        case measure => simp [intOf]; omega
      | true =>
        rw [hsf] at HBR
        clear hsf
        go_wp2_with (first | (at_builtin; refine wpList_append_own _ rfl _ _ 27 rfl Base 3 i0 (.int .i64 0) 1 8 Try.underlying27 hi hz0 hz1 hz2 rfl (by decide) _ _ _ rfl (HYO.out.alloc _) ⟨y2.heap.size + 1, 0, none⟩ 1 1 [.int .i64 s'] rfl rfl (alloc_add1 _ _ _ _ s7) (by simp [Value.oneCell']) (by unfold maxLen; omega) (by omega) HBS.out ?_))
        intro v9 w9 hown9 hgrow9 _
        obtain ⟨av9, cv9, rfl, _, _, _⟩ := owned_shape hown9
        have HP := (HY7.out.below ((Below.refl _ _).alloc (Nat.le_refl _) _)).push HORD.out hgrow9 (show World.ownsRow _ Base 3 1 (.slice av9 (k + 1) cv9) (k + 1) (singles (P.wSpeed x u z) (k + 1)) from (by rw [singles, HSPD.out]; exact hown9))
        have HT9 : Hid (w9.rowIs y2.heap.size 78 4 (Tr.cell ⟨s', b', a', k'⟩)) := watch_row (HT7.out.alloc _) hgrow9 (fun e => by have := HLT.out _ e.symm; omega)
        have z1 : w9.cell? ⟨Ob, 1, none⟩ = some (.slice av k cv) := HP.1.cell (i := 1) (by omega)
        have z2 : w9.cell? ⟨Ob, 2, none⟩ = some (.int .i64 br) := HP.1.cell (i := 2) (by omega)
        have z3 : w9.cell? ⟨Ob, 3, none⟩ = some (.int .i64 ta) := HP.1.cell (i := 3) (by omega)
        have zf := HP.1.frozen
        have v2 := HT9.out.cell (i := 2) (by omega)
        simp only [Tr.cell] at v2
        have hneO : ¬ (Ob = y2.heap.size) := by omega
        have hneO' : ¬ (y2.heap.size = Ob) := by omega
        have H10 := HP.2.set HORD.out 3 (.int .i64 a') (br' := br) (at' := a') (cases4 rfl rfl rfl rfl)
        have H11 : Hid (WI P w w1 _ Ob Bc Bt Base bp bz dp dz g hh nb cn (.slice av9 (k + 1) cv9) (k + 1) (singles (P.wSpeed x u z) (k + 1)) br a' ⟨s', b', a', k'⟩) := H10
        replace HBR : Hid ((P.wst x u z (k + 1)).braked = br) := by show _ = _; rw [HBR.out]; rfl
        clear HP hown9 hgrow9 u0 q1 hW7
        go_wp2
        go_roundw
        case rel =>
          refine ⟨k + 1, .slice av9 (k + 1) cv9, by omega, by go_num, ?_⟩
          show WI _ _ _ _ _ _ _ _ _ _ _ _ _ _ _ _ _ _ _ _ _ _
          rw [HXX.out, HTN.out, HBR.out]
          exact H11.out
        case measure => simp [intOf]; omega
    · have ek : k = n := by omega
      subst ek
      have q0 : wr.cell? ⟨Ob, 0, none⟩ = some (.bool true) := HH.out.2.1.cell (i := 0) (by omega)
      have q1 : wr.cell? ⟨Ob, 1, none⟩ = some (.slice av k cv) := HH.out.2.1.cell (i := 1) (by omega)
      have q2 : wr.cell? ⟨Ob, 2, none⟩ = some (.int .i64 (P.wst x u z k).braked) := HH.out.2.1.cell (i := 2) (by omega)
      have q3 : wr.cell? ⟨Ob, 3, none⟩ = some (.int .i64 (P.wst x u z k).x) := HH.out.2.1.cell (i := 3) (by omega)
      have k0 := HH.out.1.cell (i := 0) (by omega)
      have k1 := HH.out.1.cell (i := 1) (by omega)
      have k2 := HH.out.1.cell (i := 2) (by omega)
      have k3 := HH.out.1.cell (i := 3) (by omega)
      have kf := HH.out.1.frozen
      simp only [w4] at k0 k1 k2 k3
      simp at k0 k1 k2 k3
      go_wp2
      refine bodyPost_ret (v := .agg #[.bool true, .slice av k cv, .int .i64 (P.wst x u z k).braked, .int .i64 (P.wst x u z k).x]) (by simp [results, Try.results15, go_sem, *]) rfl ⟨_, rfl, ?_, ?_⟩
      · refine watch_base (base := Base) ?_ (by omega)
        iterate 4 refine ownsRow_setCell_below ?_ (by show w.heap.size + 1 < Base; omega) _
        exact HH.out.2.2.1
      · iterate 4 refine Below.setCell ?_ (by simp) _
        exact HH.out.2.2.2.2.2.2.1

theorem implWatch_any (P : Prof) (v : Value) (x u : Int) (a : Option Addr) (n c : Nat) (z : Nat → Int) (w : World) (hl : P.Lies w v) (hz : Row1 w a n z) (hn : n ≤ 9223372036854775807) :
    Calls Try.prog 15 #[v, .int .i64 x, .int .i64 u, .slice a n c] w fun e w' => ∃ a c, e = .returned (.agg #[.bool (P.watchable n x u), .slice a (P.watN n x u) c, .int .i64 (P.watBr n x u z), .int .i64 (P.watAt n x u z)]) ∧ w'.ownsRow w.heap.size 3 1 (.slice a (P.watN n x u) c) (P.watN n x u) (singles (P.wSpeed x u z) (P.watN n x u)) ∧ Below w.heap.size w w' :=
  watch_join (fun h => implWatch_no P v x u a n c z w hl hz hn h) (fun h => implWatch_yes P v x u a n c z w hl hz h)

end Go.Proofs.Yteodefmpkljedaa
