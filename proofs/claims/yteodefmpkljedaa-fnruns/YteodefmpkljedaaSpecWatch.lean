/-
  The model of Watch.
-/
import Derived.Test.YteodefmpkljedaaSpecSafe2
import Derived.Test.YteodefmpkljedaaWatch
import Derived.Test.YteodefmpkljedaaOwnRow
import Derived.Test.YteodefmpkljedaaLawHelp
namespace Go.Proofs.Yteodefmpkljedaa
open Go.RowKit Go.Sort
set_option linter.unusedVariables false
set_option linter.unusedSimpArgs false

theorem Try.infoIntW : (Try.prog.info? 3).map (fun i => (i.zero, i.size, i.bytes)) = some (some (.int .i64 0), 1, 8) := by kernel_rfl

/-- It can be watched. -/
def Prof.watchable (P : Prof) (n : Nat) (x u : Int) : Bool := decide (n ≤ 500) && (P.good x u && P.safe 0 x u)
/-- What is told: how many speeds, which, how often braked, where. -/
def Prof.wN (P : Prof) (n : Nat) (x u : Int) : Nat := if P.watchable n x u = true then n else 0
def Prof.wSpeed (P : Prof) (x u : Int) (z : Nat → Int) (k : Nat) : Int := (P.wst x u z (k + 1)).v
def Prof.wBraked (P : Prof) (n : Nat) (x u : Int) (z : Nat → Int) : Int := if P.watchable n x u = true then (P.wst x u z n).braked else 0
def Prof.wAt (P : Prof) (n : Nat) (x u : Int) (z : Nat → Int) : Int := if P.watchable n x u = true then (P.wst x u z n).x else 0
/-- The four cells of what is watched. -/
def w4 (b : Bool) (v : Value) (n at_ : Int) (i : Nat) : Value := if i = 0 then .bool b else if i = 1 then v else .int .i64 (if i = 2 then n else at_)
theorem cases4 {Q : Nat → Prop} (h0 : Q 0) (h1 : Q 1) (h2 : Q 2) (h3 : Q 3) : ∀ j, j < 4 → Q j := fun j hj => match j, hj with
  | 0, _ => h0
  | 1, _ => h1
  | 2, _ => h2
  | 3, _ => h3

set_option maxRecDepth 20000 in
set_option maxHeartbeats 8000000 in
theorem specWatch_no (P : Prof) (v : Value) (x u : Int) (a : Option Addr) (n c : Nat) (z : Nat → Int) (w : World) (hl : P.Lies w v) (hz : Row1 w a n z) (hn : n ≤ 9223372036854775807) (h : P.watchable n x u = false) :
    Calls Try.prog 16 #[v, .int .i64 x, .int .i64 u, .slice a n c] w fun e w' => e = .returned (.agg #[.bool false, .slice none 0 0, .int .i64 0, .int .i64 0]) ∧ Below w.heap.size w w' := by
  have HV : Hid (P.Lies w v) := hl
  have HN : Hid (P.watchable n x u = false) := h
  obtain ⟨ap, cp, az, cz, rfl, hnp, hnz, hr2, hr3⟩ := hl
  clear hr2 hr3 hz h
  by_cases h5 : 500 < n
  · go_enter Try.func16, Try.ntmps16
    go_wp2
    refine bodyPost_ret (v := .agg #[.bool false, .slice none 0 0, .int .i64 0, .int .i64 0]) (by simp [results, Try.results16, go_sem, *]) rfl ⟨rfl, ?_⟩
    exact ((Below.refl _ _).alloc (Nat.le_refl _) _).alloc (by simp) _
  · have h5' : decide (500 < (n : Int)) = false := by simp; omega
    go_enter Try.func16, Try.ntmps16
    go_wp2_with fail
    generalize hW : (w.alloc _).alloc _ = W
    have bW : Below w.heap.size w W := by rw [← hW]; exact ((Below.refl _ _).alloc (Nat.le_refl _) _).alloc (by simp) _
    have hbox : P.BoxAt W w.heap.size ap az cp cz := by subst hW; exact ⟨by go_simp, by go_simp, by go_simp, by go_simp, by go_simp⟩
    have rR : W.rowIs (w.heap.size + 1) 31 4 (w4 false (.slice none 0 0) 0 0) := by
      have := World.rowIs_alloc (w.alloc (.cells #[.slice ap P.np cp, .slice az P.nz cz, .int .i64 P.train, .int .i64 P.fin, .int .i64 P.delay] 26)) #[.bool false, .slice none 0 0, .int .i64 0, .int .i64 0] 31 (w4 false (.slice none 0 0) 0 0) (fun i hi => by simp at hi; match i, hi with | 0, _ => rfl | 1, _ => rfl | 2, _ => rfl | 3, _ => rfl)
      rw [World.size_alloc] at this
      rw [← hW]; exact this
    clear hW
    refine (l3good_any P _ x u _ (HV.out.below bW)).mono ?_
    rintro e w1 ⟨rfl, hb1⟩
    have b1 := bW.trans (hb1.mono bW.size)
    have rR1 := rowIs_below rR hb1
    have hbox1 := hbox.below hb1
    obtain ⟨x0, x1, x2, x3, x4⟩ := hbox1
    cases hg : P.good x u with
    | false =>
      have k0 := rR1.cell (i := 0) (by omega)
      have k1 := rR1.cell (i := 1) (by omega)
      have k2 := rR1.cell (i := 2) (by omega)
      have k3 := rR1.cell (i := 3) (by omega)
      have kf := rR1.frozen
      simp [w4] at k0 k1 k2 k3
      clear rR1 hb1 bW hbox rR
      go_wp2
      refine bodyPost_ret (v := .agg #[.bool false, .slice none 0 0, .int .i64 0, .int .i64 0]) (by simp [results, Try.results16, go_sem, *]) rfl ⟨rfl, ?_⟩
      iterate 4 refine Below.setCell ?_ (by simp) _
      exact b1
    | true =>
      obtain ⟨⟨hok, g0, g1⟩, g2, g3⟩ := Prof.good_with hg
      have HOK : Hid P.Ok := hok
      have htot := (Prof.total_bounds hok.lens).2
      have hs : P.safe 0 x u = false := by
        have := HN.out
        unfold Prof.watchable at this
        rw [hg] at this
        simpa [show n ≤ 500 by omega] using this
      clear hok hg hb1 bW hbox rR
      have HR1 : Hid (w1.rowIs (w.heap.size + 1) 31 4 (w4 false (.slice none 0 0) 0 0)) := rR1
      clear rR1
      go_wp2_with fail
      refine (l3safe_any P _ x u _ (HV.out.below b1) HOK.out g0 (by omega) g2 g3).mono ?_
      rintro e w2 ⟨rfl, hb2⟩
      rw [hs]
      have b2 := b1.trans (hb2.mono b1.size)
      have rR2 := rowIs_below HR1.out hb2
      have k0 := rR2.cell (i := 0) (by omega)
      have k1 := rR2.cell (i := 1) (by omega)
      have k2 := rR2.cell (i := 2) (by omega)
      have k3 := rR2.cell (i := 3) (by omega)
      have kf := rR2.frozen
      simp [w4] at k0 k1 k2 k3
      clear rR2 hb2 x0 x1 x2 x3 x4 hs
      go_wp2
      refine bodyPost_ret (v := .agg #[.bool false, .slice none 0 0, .int .i64 0, .int .i64 0]) (by simp [results, Try.results16, go_sem, *]) rfl ⟨rfl, ?_⟩
      iterate 4 refine Below.setCell ?_ (by simp) _
      exact b2

end Go.Proofs.Yteodefmpkljedaa
