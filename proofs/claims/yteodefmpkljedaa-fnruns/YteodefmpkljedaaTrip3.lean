/-
  The program's trip: the least and the greatest speed that can follow, where a run may stand.
-/
import Derived.Test.YteodefmpkljedaaTrip2
import Derived.Deep.QuietTactic
import Derived.Lib.QuietBelow
import Derived.BigQuiet
namespace Go.Proofs.Yteodefmpkljedaa
open Go.RowKit Go.Sort Go.Shelf
attribute [local go_sem ↓] Go.wp_at_zero Go.wp_at_succ
set_option linter.unusedVariables false

/-- The value of a trip; of a state. -/
def tripV (g n : Nat) (acc short : Int) : Value := .agg #[.slice (some ⟨g, 0, none⟩) (n + 1) (n + 1), .int .i64 acc, .int .i64 short]
def stV (d v : Int) : Value := .agg #[.int .i64 d, .int .i64 v]

set_option maxHeartbeats 2000000 in
theorem slowest_any (P : Prof) (w : World) (g n i : Nat) (acc x short v : Int) (hs : P.Spots w g n x) (hi : i ≤ n) (hn : n ≤ 2000) (v0 : 0 ≤ v) (v1 : v ≤ 60) (hf : P.Fit) :
    Calls Try.prog 88 #[tripV g n acc short, stV i v] w fun e w' => e = .returned (.int .i64 (max (v - P.rate (x + i)) 0)) ∧ Below w.heap.size w w' := by
  obtain ⟨c0, c1⟩ := hs.cells hi
  have hg := hs.lt
  obtain ⟨r0, r1⟩ := hf.rate (x + i)
  clear hs hf
  unfold tripV stV
  generalize P.rate (x + i) = r at *
  go_enter Try.func88, Try.ntmps88
  go_wp2_with fail
  go_quiet (fail)
  go_wp2
  go_ret
  exact ⟨rfl, below_drewN (((Below.refl _ _).alloc (Nat.le_refl _) _).alloc (by simp) _) _⟩

set_option maxHeartbeats 2000000 in
theorem fastest_any (P : Prof) (w : World) (g n i : Nat) (acc x short v : Int) (hs : P.Spots w g n x) (hi : i ≤ n) (hn : n ≤ 2000) (v0 : 0 ≤ v) (v1 : v ≤ 60) (a0 : 0 ≤ acc) (a1 : acc ≤ 20) :
    Calls Try.prog 89 #[tripV g n acc short, stV i v] w fun e w' => e = .returned (.int .i64 (min (v + acc) (P.top (x + i)))) ∧ Below w.heap.size w w' := by
  obtain ⟨c0, c1⟩ := hs.cells hi
  have hg := hs.lt
  clear hs
  unfold tripV stV
  generalize P.top (x + i) = r at *
  go_enter Try.func89, Try.ntmps89
  go_wp2_with fail
  go_quiet (fail)
  go_wp2
  go_ret
  exact ⟨rfl, below_drewN (((Below.refl _ _).alloc (Nat.le_refl _) _).alloc (by simp) _) _⟩

set_option maxHeartbeats 2000000 in
theorem after_any (w : World) (d v u : Int) (d0 : 0 ≤ d) (d1 : d ≤ 2000) (u0 : 0 ≤ u) (u1 : u ≤ 60) :
    Calls Try.prog 90 #[stV d v, .int .i64 u] w fun e w' => e = .returned (stV (d + u) u) ∧ Below w.heap.size w w' := by
  unfold stV
  go_enter Try.func90, Try.ntmps90
  go_wp2
  refine bodyPost_ret (v := .agg #[.int .i64 (d + u), .int .i64 u]) (by simp [results, Try.results90, go_sem, *]) rfl ⟨rfl, ?_⟩
  exact ((Below.refl _ _).alloc (Nat.le_refl _) _).alloc (by simp) _

set_option maxHeartbeats 2000000 in
theorem firstHome_any (w : World) (g n : Nat) (acc short : Int) (hn : n ≤ 2000) (s0 : 0 ≤ short) (s1 : short ≤ 2000) :
    Calls Try.prog 109 #[tripV g n acc short] w fun e w' => e = .returned (.int .i64 (max ((n : Int) - short) 0)) ∧ Below w.heap.size w w' := by
  unfold tripV
  go_enter Try.func109, Try.ntmps109
  go_wp2
  go_ret
  exact ⟨rfl, (Below.refl _ _).alloc (Nat.le_refl _) _⟩

theorem slowest_at (P : Prof) (w : World) (g n : Nat) (acc x short d v : Int) (hs : P.Spots w g n x) (d0 : 0 ≤ d) (d1 : d ≤ n) (hn : n ≤ 2000) (v0 : 0 ≤ v) (v1 : v ≤ 60) (hf : P.Fit) :
    Calls Try.prog 88 #[tripV g n acc short, stV d v] w fun e w' => e = .returned (.int .i64 (max (v - P.rate (x + d)) 0)) ∧ Below w.heap.size w w' := by
  obtain ⟨i, rfl⟩ : ∃ i : Nat, d = i := ⟨d.toNat, by omega⟩
  exact slowest_any P w g n i acc x short v hs (by omega) hn v0 v1 hf
theorem fastest_at (P : Prof) (w : World) (g n : Nat) (acc x short d v : Int) (hs : P.Spots w g n x) (d0 : 0 ≤ d) (d1 : d ≤ n) (hn : n ≤ 2000) (v0 : 0 ≤ v) (v1 : v ≤ 60) (a0 : 0 ≤ acc) (a1 : acc ≤ 20) :
    Calls Try.prog 89 #[tripV g n acc short, stV d v] w fun e w' => e = .returned (.int .i64 (min (v + acc) (P.top (x + d)))) ∧ Below w.heap.size w w' := by
  obtain ⟨i, rfl⟩ : ∃ i : Nat, d = i := ⟨d.toNat, by omega⟩
  exact fastest_any P w g n i acc x short v hs (by omega) hn v0 v1 a0 a1
def tripC (g n : Nat) (acc short : Int) (i : Nat) : Value := #[Value.slice (some ⟨g, 0, none⟩) (n + 1) (n + 1), Value.int .i64 acc, Value.int .i64 short][i]!
def stC (d v : Int) (i : Nat) : Value := #[Value.int .i64 d, Value.int .i64 v][i]!
/-- The variable of a trip; of a state. -/
def TripAt (w : World) (B g n : Nat) (acc short : Int) : Prop := w.rowIs B 102 3 (tripC g n acc short)
def StAt (w : World) (B : Nat) (d v : Int) : Prop := w.rowIs B 110 2 (stC d v)
theorem TripAt.cells {w : World} {B g n : Nat} {acc short : Int} (h : TripAt w B g n acc short) : w.cell? ⟨B, 0, none⟩ = some (.slice (some ⟨g, 0, none⟩) (n + 1) (n + 1)) ∧ w.cell? ⟨B, 1, none⟩ = some (.int .i64 acc) ∧ w.cell? ⟨B, 2, none⟩ = some (.int .i64 short) := ⟨h.cell (i := 0) (by omega), h.cell (i := 1) (by omega), h.cell (i := 2) (by omega)⟩
theorem StAt.cells {w : World} {B : Nat} {d v : Int} (h : StAt w B d v) : w.cell? ⟨B, 0, none⟩ = some (.int .i64 d) ∧ w.cell? ⟨B, 1, none⟩ = some (.int .i64 v) := ⟨h.cell (i := 0) (by omega), h.cell (i := 1) (by omega)⟩
theorem TripAt.below {w w1 : World} {B g n : Nat} {acc short : Int} (h : TripAt w B g n acc short) (hb : Below w.heap.size w w1) : TripAt w1 B g n acc short := rowIs_below h hb
theorem StAt.below {w w1 : World} {B : Nat} {d v : Int} (h : StAt w B d v) (hb : Below w.heap.size w w1) : StAt w1 B d v := rowIs_below h hb
theorem TripAt.new (w : World) (g n : Nat) (acc short : Int) : TripAt (w.alloc (.cells #[.slice (some ⟨g, 0, none⟩) (n + 1) (n + 1), .int .i64 acc, .int .i64 short] 102)) w.heap.size g n acc short :=
  World.rowIs_alloc w #[.slice (some ⟨g, 0, none⟩) (n + 1) (n + 1), .int .i64 acc, .int .i64 short] 102 (tripC g n acc short) (fun i hi => by simp at hi; simp [tripC, hi])
theorem StAt.new (w : World) (d v : Int) : StAt (w.alloc (.cells #[.int .i64 d, .int .i64 v] 110)) w.heap.size d v :=
  World.rowIs_alloc w #[.int .i64 d, .int .i64 v] 110 (stC d v) (fun i hi => by simp at hi; simp [stC, hi])
theorem StAt.set {w : World} {B : Nat} {d v : Int} (h : StAt w B d v) (d' v' : Int) : StAt ((w.setCell ⟨B, 0, none⟩ (.int .i64 d')).setCell ⟨B, 1, none⟩ (.int .i64 v')) B d' v' := by
  have h1 := World.rowIs.set (World.rowIs.set h 0 (.int .i64 d')) 1 (.int .i64 v')
  refine h1.congr (fun i hi => ?_)
  match i, hi with
  | 0, _ => rfl
  | 1, _ => rfl
theorem Prof.home_first {P : Prof} {x short : Int} {n : Nat} (hn : P.fin - x = (n : Int)) {d v : Int} (d0 : 0 ≤ d) (d1 : d ≤ n) : P.home x short d v = decide (v = 0 ∧ max ((n : Int) - short) 0 ≤ d) := by
  unfold Prof.home
  exact decide_eq_decide.2 ⟨fun h => ⟨h.1, by omega⟩, fun h => ⟨h.1, by omega, by omega⟩⟩
set_option maxHeartbeats 2000000 in
theorem isHome_any (P : Prof) (w : World) (g n : Nat) (acc x short d v : Int) (hf : P.fin - x = (n : Int)) (hn : n ≤ 2000) (s0 : 0 ≤ short) (s1 : short ≤ 2000) (d0 : 0 ≤ d) (d1 : d ≤ n) :
    Calls Try.prog 91 #[tripV g n acc short, stV d v] w fun e w' => e = .returned (.bool (P.home x short d v)) ∧ Below w.heap.size w w' := by
  rw [Prof.home_first hf d0 d1]
  unfold tripV stV
  by_cases hv : v = 0
  · have HE : Hid (decide (max ((n : Int) - short) 0 ≤ d) = decide (v = 0 ∧ max ((n : Int) - short) 0 ≤ d)) := decide_eq_decide.2 ⟨fun h => ⟨hv, h⟩, fun h => h.2⟩
    have hv' : (v == 0) = true := by simpa using hv
    clear hv hf
    go_enter Try.func91, Try.ntmps91
    go_wp2_with fail
    generalize hW : (w.alloc _).alloc _ = W
    have bW : Below w.heap.size w W := by rw [← hW]; exact ((Below.refl _ _).alloc (Nat.le_refl _) _).alloc (by simp) _
    have y0 := cell_regrown (show W.cell? ⟨w.heap.size, 0, none⟩ = some (.slice (some ⟨g, 0, none⟩) (n + 1) (n + 1)) by subst hW; go_simp)
    have y1 := cell_regrown (show W.cell? ⟨w.heap.size, 1, none⟩ = some (.int .i64 acc) by subst hW; go_simp)
    have y2 := cell_regrown (show W.cell? ⟨w.heap.size, 2, none⟩ = some (.int .i64 short) by subst hW; go_simp)
    have z0 := cell_regrown (show W.cell? ⟨w.heap.size + 1, 0, none⟩ = some (.int .i64 d) by subst hW; go_simp)
    have z1 := cell_regrown (show W.cell? ⟨w.heap.size + 1, 1, none⟩ = some (.int .i64 v) by subst hW; go_simp)
    have cF : ∀ dd os, Calls Try.prog 109 #[.agg #[.slice (some ⟨g, 0, none⟩) (n + 1) (n + 1), .int .i64 acc, .int .i64 short]] (Sort.grow (redrawn W dd) os) fun e w'' => e = .returned (.int .i64 (max ((n : Int) - short) 0)) ∧ ∃ p : Regrown, w'' = Sort.grow (redrawn W p.d) p.os := fun dd os => Calls.regrown_of (firstHome_any _ g n acc short hn s0 s1)
    clear hW
    refine wp_region_quiet_below (by kernel_rfl) (by kernel_rfl) ?_
    repeat (go_big_quiet_step (first | (go_at_call 109; exact cF _ _)))
    refine wpQuiet_nil ?_
    intro _ hw'
    obtain ⟨⟨dq, osq⟩, hw''⟩ := hw'
    subst hw''
    have hq := bW.trans ((below_regrown W dq osq).mono bW.size)
    generalize Sort.grow (redrawn W dq) osq = W2 at *
    go_wp2
    go_ret
    exact ⟨ret_bool HE.out, hq⟩
  · have HE : Hid (decide (v = 0 ∧ max ((n : Int) - short) 0 ≤ d) = false) := decide_eq_false (fun c => hv c.1)
    have hv' : (v == 0) = false := by simpa using hv
    clear hf
    go_enter Try.func91, Try.ntmps91
    go_wp2_with fail
    go_quiet (fail)
    go_wp2
    go_ret
    exact ⟨ret_bool HE.out.symm, below_drewN (((Below.refl _ _).alloc (Nat.le_refl _) _).alloc (by simp) _) _⟩

set_option maxRecDepth 20000 in
set_option maxHeartbeats 8000000 in
theorem implRunOk_yes (P : Prof) (v : Value) (acc x short : Int) (a : Option Addr) (n c : Nat) (z : Nat → Int) (w : World) (hl : P.Lies w v) (hz : Row1 w a n z) (hn : n ≤ 2000) (hg : P.runGood acc x short = true) :
    Calls Try.prog 36 #[v, .int .i64 acc, .int .i64 x, .int .i64 short, .slice a n c] w fun e w' => e = .returned (.bool (P.isRun acc x short z n)) ∧ Below w.heap.size w w' := by
  have HV : Hid (P.Lies w v) := hl
  have HZ : Hid (Row1 w a n z) := hz
  obtain ⟨hok, ⟨a0, a1⟩, ⟨g0, g1⟩, g2, ⟨s0, s1⟩⟩ := Prof.runGood_iff.1 hg
  have HG : Hid (P.runGood acc x short = true) := hg
  have HF : Hid P.Fit := hok.fit
  obtain ⟨f0, f1⟩ := hok.fit.fin
  obtain ⟨N, hN⟩ : ∃ N : Nat, P.fin - x = (N : Int) := ⟨(P.fin - x).toNat, by omega⟩
  obtain ⟨ap, cp, az, cz, rfl, hnp, hnz, hr2, hr3⟩ := hl
  have h5' : decide (2000 < (n : Int)) = false := by simp; omega
  have hrP : ∀ y, 1 ≤ P.rate y := fun y => (hok.fit.rate y).1
  have HIN : Hid (∀ k, P.goesTo acc x z k = true → 0 ≤ (rst z k).1 ∧ x + (rst z k).1 ≤ P.fin ∧ 0 ≤ (rst z k).2 ∧ (rst z k).2 ≤ 60) := Prof.goesTo_in hrP (by omega) g1 z
  have HNO : Hid (∀ k, k < n → P.goesTo acc x z (k + 1) = false → P.isRun acc x short z n = false) := fun k hk h => by
    have := Prof.goesTo_no h (n - (k + 1))
    rw [show k + 1 + (n - (k + 1)) = n by omega] at this
    unfold Prof.isRun
    rw [this]; rfl
  clear hr2 hr3 hz hok hg hrP
  go_enter Try.func36, Try.ntmps36
  go_wp2_with fail
  generalize hW : w.alloc _ = W
  have bW : Below w.heap.size w W := by rw [← hW]; exact (Below.refl _ _).alloc (Nat.le_refl _) _
  clear hW
  refine (tripWith_yes P _ acc x short N _ (HV.out.below bW) HG.out hN).mono ?_
  rintro e w2 ⟨g, rfl, hgs, hsp, hb2⟩
  have b2 := bW.trans (hb2.mono bW.size)
  have HSP : Hid (P.Spots w2 g N x) := hsp
  have hgw : g < w2.heap.size := hsp.lt
  clear hb2 hsp bW
  go_wp2_with fail
  obtain ⟨TB, hTB⟩ : ∃ TB, w2.heap.size = TB := ⟨_, rfl⟩
  have HT3 : Hid (TripAt (w2.alloc (.cells #[.slice (some ⟨g, 0, none⟩) (N + 1) (N + 1), .int .i64 acc, .int .i64 short] 102)) TB g N acc short) := by show TripAt _ _ _ _ _ _; rw [← hTB]; exact TripAt.new w2 g N acc short
  have bq3 : Below w2.heap.size w2 (w2.alloc (.cells #[.slice (some ⟨g, 0, none⟩) (N + 1) (N + 1), .int .i64 acc, .int .i64 short] 102)) := (Below.refl _ _).alloc (Nat.le_refl _) _
  have HP3 : Hid (P.Spots (w2.alloc (.cells #[.slice (some ⟨g, 0, none⟩) (N + 1) (N + 1), .int .i64 acc, .int .i64 short] 102)) g N x) := HSP.out.below bq3
  have b3 := b2.trans (bq3.mono b2.size)
  have s3 : (w2.alloc (.cells #[.slice (some ⟨g, 0, none⟩) (N + 1) (N + 1), .int .i64 acc, .int .i64 short] 102)).heap.size = TB + 1 := by simp; omega
  have sw : w.heap.size ≤ TB := by rw [← hTB]; exact b2.size
  have hgT : g < TB := by rw [← hTB]; exact hgw
  generalize w2.alloc (.cells #[.slice (some ⟨g, 0, none⟩) (N + 1) (N + 1), .int .i64 acc, .int .i64 short] 102) = W3 at *
  have bq4 : Below W3.heap.size W3 (W3.alloc (.cells #[.int .i64 0, .int .i64 0] 110)) := (Below.refl _ _).alloc (Nat.le_refl _) _
  have HT4 : Hid (TripAt (W3.alloc (.cells #[.int .i64 0, .int .i64 0] 110)) TB g N acc short) := HT3.out.below bq4
  have HP4 : Hid (P.Spots (W3.alloc (.cells #[.int .i64 0, .int .i64 0] 110)) g N x) := HP3.out.below bq4
  have HS4 : Hid (StAt (W3.alloc (.cells #[.int .i64 0, .int .i64 0] 110)) (TB + 1) 0 0) := by show StAt _ _ _ _; rw [← s3]; exact StAt.new W3 0 0
  have b4 := b3.trans (bq4.mono b3.size)
  generalize W3.alloc (.cells #[.int .i64 0, .int .i64 0] 110) = W4 at *
  rw [hTB]
  clear HT3 HP3 b3 bq3 bq4 HSP b2 hTB
  go_loopw [34] (fun i wr => ∃ k : Nat, k ≤ n ∧ i = .int .i64 k ∧ Hid (P.goesTo acc x z k = true) ∧ Hid (TripAt wr TB g N acc short) ∧ Hid (StAt wr (TB + 1) (rst z k).1 (rst z k).2) ∧ Hid (P.Spots wr g N x) ∧ Below w.heap.size w wr) (fun i _ => n - (intOf i).toNat)
  case atStart => exact ⟨0, Nat.zero_le _, rfl, rfl, HT4.out, HS4.out, HP4.out, b4⟩
  case round =>
    clear HT4 HS4 HP4 b4
    obtain ⟨k, hk, rfl, HGO, HT5, HS5, HP5, b5⟩ := hrel
    obtain ⟨i0, i1, i2, i3⟩ := HIN.out k HGO.out
    by_cases hlt : k < n
    · have hkI : (k : Int) < (n : Int) := by omega
      rcases HZ.out with h0 | ⟨bb, off, rfl, hbb, hcc⟩
      · omega
      have c0 : wr.cell? ⟨bb, off + k, none⟩ = some (.int .i64 (z k)) := (b5.cell (p := ⟨bb, off + k, none⟩) hbb).trans (hcc k hlt)
      clear hcc
      have HS1 : Hid (rst z (k + 1) = ((rst z k).1 + z k, z k)) := rfl
      have HS2 : Hid (P.goesTo acc x z (k + 1) = (P.goesTo acc x z k && P.goes acc x (rst z k).1 (rst z k).2 (z k))) := rfl
      have HGT : Hid (P.goes acc x (rst z k).1 (rst z k).2 (z k) = true ↔ max ((rst z k).2 - P.rate (x + (rst z k).1)) 0 ≤ z k ∧ z k ≤ min ((rst z k).2 + acc) (P.top (x + (rst z k).1))) := Prof.goes_top HF.out (by omega) i2 i3 i1
      obtain ⟨tp0, tp1, tp2⟩ := P.top_in HF.out i1
      generalize rst z k = st at *
      obtain ⟨d, v⟩ := st
      dsimp only at *
      generalize z k = q at *
      obtain ⟨p0, p1, p2⟩ := HT5.out.cells
      obtain ⟨r0, r1⟩ := HS5.out.cells
      go_wp2_with fail
      refine (slowest_at P _ g N acc x short d v HP5.out i0 (by omega) (by omega) i2 i3 HF.out).mono ?_
      rintro e w6 ⟨rfl, hb6⟩
      clear p0 p1 p2 r0 r1 c0
      have HT6 : Hid (TripAt w6 TB g N acc short) := HT5.out.below hb6
      have HS6 : Hid (StAt w6 (TB + 1) d v) := HS5.out.below hb6
      have HP6 : Hid (P.Spots w6 g N x) := HP5.out.below hb6
      have b6 := b5.trans (hb6.mono b5.size)
      obtain ⟨p0, p1, p2⟩ := HT6.out.cells
      obtain ⟨r0, r1⟩ := HS6.out.cells
      clear hb6 HT5 HS5 HP5 b5
      generalize hlo : max (v - P.rate (x + d)) 0 = lo at *
      by_cases h1 : q < lo
      · have HE : Hid (P.isRun acc x short z n = false) := HNO.out k hlt (by rw [HS2.out]; cases c : P.goes acc x d v q with | false => simp | true => have := HGT.out.1 c; omega)
        go_wp2
        go_ret
        exact ⟨ret_bool HE.out.symm, b6⟩
      · have h1' : decide (q < lo) = false := by simpa using h1
        go_wp2_with fail
        refine (fastest_at P _ g N acc x short d v HP6.out i0 (by omega) (by omega) i2 i3 (by omega) (by omega)).mono ?_
        rintro e w7 ⟨rfl, hb7⟩
        clear p0 p1 p2 r0 r1
        have HT7 : Hid (TripAt w7 TB g N acc short) := HT6.out.below hb7
        have HS7 : Hid (StAt w7 (TB + 1) d v) := HS6.out.below hb7
        have HP7 : Hid (P.Spots w7 g N x) := HP6.out.below hb7
        have b7 := b6.trans (hb7.mono b6.size)
        obtain ⟨p0, p1, p2⟩ := HT7.out.cells
        obtain ⟨r0, r1⟩ := HS7.out.cells
        clear hb7 HT6 HS6 HP6 b6
        have hhb : min (v + acc) (P.top (x + d)) ≤ 60 := by omega
        have hhf : x + d + min (v + acc) (P.top (x + d)) ≤ P.fin := by omega
        generalize hhi : min (v + acc) (P.top (x + d)) = hi at *
        by_cases h2 : hi < q
        · have HE : Hid (P.isRun acc x short z n = false) := HNO.out k hlt (by rw [HS2.out]; cases c : P.goes acc x d v q with | false => simp | true => have := HGT.out.1 c; omega)
          go_wp2
          go_ret
          exact ⟨ret_bool HE.out.symm, b7⟩
        · have h2' : decide (hi < q) = false := by simpa using h2
          have HG' : Hid (P.goesTo acc x z (k + 1) = true) := by show _ = _; rw [HS2.out, HGO.out, HGT.out.2 ⟨by omega, by omega⟩]; rfl
          have q0 : 0 ≤ q := by omega
          go_wp2_with fail
          refine (after_any _ d v q i0 (by omega) q0 (by omega)).mono ?_
          unfold stV
          rintro e w8 ⟨rfl, hb8⟩
          clear p0 p1 p2 r0 r1
          have HT8 : Hid (TripAt w8 TB g N acc short) := HT7.out.below hb8
          have HS8 : Hid (StAt w8 (TB + 1) d v) := HS7.out.below hb8
          have HP8 : Hid (P.Spots w8 g N x) := HP7.out.below hb8
          have b8 := b7.trans (hb8.mono b7.size)
          obtain ⟨p0, p1, p2⟩ := HT8.out.cells
          obtain ⟨r0, r1⟩ := HS8.out.cells
          clear hb8 HT7 HS7 HP7 b7
          have rf := HS8.out.frozen
          go_wp2
          go_roundw
          case rel =>
            refine ⟨k + 1, by omega, by go_num, HG'.out, ?_, ?_, ?_, ?_⟩
            · exact (World.rowIs.setOther (World.rowIs.setOther HT8.out (by simp) _) (by simp) _)
            · rw [HS1.out]; exact HS8.out.set _ _
            · exact (World.rowIs.setOther (World.rowIs.setOther HP8.out (by simp; omega) _) (by simp; omega) _)
            · exact (b8.setCell (by simp; omega) _).setCell (by simp; omega) _
          case measure => simp [intOf]; omega
    · have ek : k = n := by omega
      subst ek
      obtain ⟨p0, p1, p2⟩ := HT5.out.cells
      obtain ⟨r0, r1⟩ := HS5.out.cells
      have HE : Hid (P.home x short (rst z k).1 (rst z k).2 = P.isRun acc x short z k) := by show _ = _; unfold Prof.isRun; rw [HGO.out]; rfl
      generalize rst z k = st at *
      obtain ⟨d, v⟩ := st
      dsimp only at *
      go_wp2_with fail
      refine (isHome_any P _ g N acc x short d v hN (by omega) s0 s1 i0 (by omega)).mono ?_
      rintro e w6 ⟨rfl, hb6⟩
      have b6 := b5.trans (hb6.mono b5.size)
      go_wp2
      go_ret
      exact ⟨ret_bool HE.out, b6⟩

set_option maxHeartbeats 4000000 in
theorem implRunOk_long (P : Prof) (v : Value) (acc x short : Int) (a : Option Addr) (n c : Nat) (w : World) (hl : P.Lies w v) (hn : 2000 < n) (hm : n ≤ 9223372036854775807) (hg : P.runGood acc x short = true) :
    Calls Try.prog 36 #[v, .int .i64 acc, .int .i64 x, .int .i64 short, .slice a n c] w fun e w' => e = .returned (.bool false) ∧ Below w.heap.size w w' := by
  have HV : Hid (P.Lies w v) := hl
  obtain ⟨_, _, ⟨g0, g1⟩, _⟩ := Prof.runGood_iff.1 hg
  have HG : Hid (P.runGood acc x short = true) := hg
  obtain ⟨N, hN⟩ : ∃ N : Nat, P.fin - x = (N : Int) := ⟨(P.fin - x).toNat, by omega⟩
  obtain ⟨ap, cp, az, cz, rfl, hnp, hnz, hr2, hr3⟩ := hl
  have h5' : (2000 : Int) < (n : Int) := by omega
  clear hr2 hr3 hg
  go_enter Try.func36, Try.ntmps36
  go_wp2_with fail
  generalize hW : w.alloc _ = W
  have bW : Below w.heap.size w W := by rw [← hW]; exact (Below.refl _ _).alloc (Nat.le_refl _) _
  clear hW
  refine (tripWith_yes P _ acc x short N _ (HV.out.below bW) HG.out hN).mono ?_
  rintro e w2 ⟨g, rfl, _, _, hb2⟩
  have b2 := bW.trans (hb2.mono bW.size)
  clear hb2 bW
  go_wp2
  go_ret
  exact ⟨rfl, b2.alloc b2.size _⟩

set_option maxHeartbeats 4000000 in
theorem implRunOk_no (P : Prof) (v : Value) (acc x short : Int) (a : Option Addr) (n c : Nat) (w : World) (hl : P.Lies w v) (hg : P.runGood acc x short = false) :
    Calls Try.prog 36 #[v, .int .i64 acc, .int .i64 x, .int .i64 short, .slice a n c] w fun e w' => e = .returned (.bool false) ∧ Below w.heap.size w w' := by
  have HV : Hid (P.Lies w v) := hl
  have HG : Hid (P.runGood acc x short = false) := hg
  obtain ⟨ap, cp, az, cz, rfl, hnp, hnz, hr2, hr3⟩ := hl
  clear hr2 hr3 hg
  go_enter Try.func36, Try.ntmps36
  go_wp2_with fail
  generalize hW : w.alloc _ = W
  have bW : Below w.heap.size w W := by rw [← hW]; exact (Below.refl _ _).alloc (Nat.le_refl _) _
  clear hW
  have hcon : Calls Try.prog 78 #[.agg #[.slice ap P.np cp, .slice az P.nz cz, .int .i64 P.train, .int .i64 P.fin, .int .i64 P.delay], .int .i64 acc, .int .i64 x, .int .i64 short] W fun e w' => ∃ z : Nat, e = .returned (.tuple #[.agg #[.slice none 0 z, .int .i64 0, .int .i64 0], .bool false]) ∧ Below W.heap.size W w' := (tripWith_no P _ acc x short _ (HV.out.below bW) HG.out).mono (fun e w' q => ⟨0, q.1, q.2⟩)
  refine hcon.mono ?_
  clear hcon
  rintro e w2 ⟨z, rfl, hb2⟩
  have b2 := bW.trans (hb2.mono bW.size)
  clear hb2 bW
  go_wp2
  go_ret
  exact ⟨rfl, b2.alloc b2.size _⟩

theorem implRunOk_any (P : Prof) (v : Value) (acc x short : Int) (a : Option Addr) (n c : Nat) (z : Nat → Int) (w : World) (hl : P.Lies w v) (hz : Row1 w a n z) (hn : n ≤ 9223372036854775807) :
    Calls Try.prog 36 #[v, .int .i64 acc, .int .i64 x, .int .i64 short, .slice a n c] w fun e w' => e = .returned (.bool (P.runAns acc x short n z)) ∧ Below w.heap.size w w' := by
  cases hr : P.runGood acc x short with
  | false =>
    have e : P.runAns acc x short n z = false := by unfold Prof.runAns; rw [hr]; rfl
    rw [e]
    exact implRunOk_no P v acc x short a n c w hl hr
  | true =>
    by_cases h : n ≤ 2000
    · have e : P.runAns acc x short n z = P.isRun acc x short z n := by unfold Prof.runAns; rw [hr, decide_eq_true h]; simp
      rw [e]
      exact implRunOk_yes P v acc x short a n c z w hl hz h hr
    · have e : P.runAns acc x short n z = false := by unfold Prof.runAns; rw [hr, decide_eq_false h]; rfl
      rw [e]
      exact implRunOk_long P v acc x short a n c w hl (by omega) hn hr

end Go.Proofs.Yteodefmpkljedaa
