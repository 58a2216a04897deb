/-
  The model's chapter 4: a run's small functions, RunOk.
-/
import Derived.Test.YteodefmpkljedaaRuns
import Derived.Test.YteodefmpkljedaaSpecSafe2
import Derived.Test.YteodefmpkljedaaOwnRow
import Derived.Deep.QuietTactic
import Derived.Deep.RegionHeld3
import Derived.Lib.QuietBelow
import Derived.BigQuiet
namespace Go.Proofs.Yteodefmpkljedaa
open Go.RowKit
attribute [local go_sem ↓] Go.wp_at_zero Go.wp_at_succ
set_option linter.unusedVariables false

/-- The states' block: the profile, what can be gained in a tick, the place, how short of the end. -/
def Prof.GAt (P : Prof) (w : World) (G : Nat) (ap az : Option Addr) (cp cz : Nat) (acc x short : Int) : Prop :=
  P.BoxAt w G ap az cp cz ∧ w.cell? ⟨G, 5, none⟩ = some (.int .i64 acc) ∧ w.cell? ⟨G, 6, none⟩ = some (.int .i64 x) ∧ w.cell? ⟨G, 7, none⟩ = some (.int .i64 short)
theorem Prof.GAt.below {P : Prof} {w w1 : World} {G : Nat} {ap az : Option Addr} {cp cz : Nat} {acc x short : Int} (h : P.GAt w G ap az cp cz acc x short) (hb : Below w.heap.size w w1) : P.GAt w1 G ap az cp cz acc x short := by
  have hl := h.1.lt
  obtain ⟨h0, h1, h2, h3⟩ := h
  exact ⟨h0.below hb, (hb.cell (p := ⟨G, 5, none⟩) hl).trans h1, (hb.cell (p := ⟨G, 6, none⟩) hl).trans h2, (hb.cell (p := ⟨G, 7, none⟩) hl).trans h3⟩

set_option maxHeartbeats 2000000 in
theorem high_any (P : Prof) (w : World) (G : Nat) (ap az : Option Addr) (cp cz : Nat) (acc x short v : Int) (hg : P.GAt w G ap az cp cz acc x short) (a0 : 0 ≤ acc) (a1 : acc ≤ 20) (v0 : 0 ≤ v) (v1 : v ≤ 60) :
    Calls Try.prog 86 #[.pointer (some ⟨G, 0, none⟩), .int .i64 v] w fun e w' => e = .returned (.int .i64 (high acc v)) ∧ Below w.heap.size w w' := by
  obtain ⟨_, c5, c6, c7⟩ := hg
  by_cases h : 60 < v + acc
  · have HE : Hid (high acc v = 60) := if_pos h
    go_enter Try.func86, Try.ntmps86
    go_wp2
    go_ret
    exact ⟨ret_int HE.out.symm, Below.refl _ _⟩
  · have HE : Hid (high acc v = v + acc) := if_neg h
    go_enter Try.func86, Try.ntmps86
    go_wp2
    go_ret
    exact ⟨ret_int HE.out.symm, Below.refl _ _⟩

set_option maxHeartbeats 2000000 in
theorem low_any (P : Prof) (w : World) (G : Nat) (ap az : Option Addr) (cp cz : Nat) (acc x short d v : Int) (hg : P.GAt w G ap az cp cz acc x short) (hl : P.Lies w (.agg #[.slice ap P.np cp, .slice az P.nz cz, .int .i64 P.train, .int .i64 P.fin, .int .i64 P.delay])) (hok : P.Ok) (x0 : 0 ≤ x) (x1 : x ≤ 100000000) (d0 : 0 ≤ d) (d1 : d ≤ 100000000) (v0 : 0 ≤ v) (v1 : v ≤ 60) :
    Calls Try.prog 85 #[.pointer (some ⟨G, 0, none⟩), .int .i64 d, .int .i64 v] w fun e w' => e = .returned (.int .i64 (less v (P.rate (x + d)))) ∧ Below w.heap.size w w' := by
  have HL : Hid (P.Lies w (.agg #[.slice ap P.np cp, .slice az P.nz cz, .int .i64 P.train, .int .i64 P.fin, .int .i64 P.delay])) := hl
  have HOK : Hid P.Ok := hok
  have h1 := hok.counts.1
  obtain ⟨r0, r1⟩ := hok.rate (x + d)
  obtain ⟨⟨c0, c1, c2, c3, c4⟩, c5, c6, c7⟩ := hg
  clear hl hok
  go_enter Try.func85, Try.ntmps85
  go_wp2_with fail
  have cR : ∀ dd os, Calls Try.prog 53 #[.agg #[.slice ap P.np cp, .slice az P.nz cz, .int .i64 P.train, .int .i64 P.fin, .int .i64 P.delay], .int .i64 (x + d)] (Sort.grow (redrawn w dd) os) fun e w'' => e = .returned (.int .i64 (P.rate (x + d))) ∧ ∃ p : Regrown, w'' = Sort.grow (redrawn w p.d) p.os := fun dd os => Calls.regrown_of (l2rate_any P _ _ _ (HL.out.below (below_regrown w dd os)) HOK.out.lens h1)
  have y0 := cell_regrown c0
  have y1 := cell_regrown c1
  have y2 := cell_regrown c2
  have y3 := cell_regrown c3
  have y4 := cell_regrown c4
  have y6 := cell_regrown c6
  refine wp_region_quiet_below (by kernel_rfl) (by kernel_rfl) ?_
  repeat (go_big_quiet_step (first | (go_at_call 53; exact cR _ _) | (go_at_call 52; exact Calls.regrown_same (l2less_any _ _ _ (by omega) (by omega) (by omega) (by omega)))))
  refine wpQuiet_nil ?_
  intro _ hw'
  obtain ⟨⟨dq, osq⟩, hw''⟩ := hw'
  subst hw''
  have hq := below_regrown w dq osq
  generalize Sort.grow (redrawn w dq) osq = W2 at *
  go_wp2
  go_ret
  exact ⟨rfl, hq⟩

set_option maxHeartbeats 2000000 in
theorem home_any (P : Prof) (w : World) (G : Nat) (ap az : Option Addr) (cp cz : Nat) (acc x short d v : Int) (hg : P.GAt w G ap az cp cz acc x short) (x0 : 0 ≤ x) (x1 : x ≤ 100000000) (d0 : 0 ≤ d) (d1 : d ≤ 100000000) (s0 : 0 ≤ short) (s1 : short ≤ 2000) (f0 : 0 ≤ P.fin) (f1 : P.fin ≤ 100000000) :
    Calls Try.prog 92 #[.pointer (some ⟨G, 0, none⟩), .int .i64 d, .int .i64 v] w fun e w' => e = .returned (.bool (P.home x short d v)) ∧ Below w.heap.size w w' := by
  obtain ⟨⟨c0, c1, c2, c3, c4⟩, c5, c6, c7⟩ := hg
  clear c0 c1 c2 c4
  by_cases hv : v = 0
  · have hv' : (v == 0) = true := by simpa using hv
    by_cases hf : x + d ≤ P.fin
    · by_cases hs : P.fin - short ≤ x + d
      · have HE : Hid (P.home x short d v = true) := decide_eq_true ⟨hv, hf, hs⟩
        clear hv
        go_enter Try.func92, Try.ntmps92
        go_wp2_with fail
        go_quiet (fail)
        go_wp2
        go_ret
        exact ⟨ret_bool HE.out.symm, below_drewN (Below.refl _ _) _⟩
      · have hs' : decide (P.fin - short ≤ x + d) = false := by simpa using hs
        have HE : Hid (P.home x short d v = false) := decide_eq_false (fun c => hs c.2.2)
        clear hv
        go_enter Try.func92, Try.ntmps92
        go_wp2_with fail
        go_quiet (fail)
        go_wp2
        go_ret
        exact ⟨ret_bool HE.out.symm, below_drewN (Below.refl _ _) _⟩
    · have hf' : decide (x + d ≤ P.fin) = false := by simpa using hf
      have HE : Hid (P.home x short d v = false) := decide_eq_false (fun c => hf c.2.1)
      clear hv
      go_enter Try.func92, Try.ntmps92
      go_wp2_with fail
      go_quiet (fail)
      go_wp2
      go_ret
      exact ⟨ret_bool HE.out.symm, below_drewN (Below.refl _ _) _⟩
  · have hv' : (v == 0) = false := by simpa using hv
    have HE : Hid (P.home x short d v = false) := decide_eq_false (fun c => hv c.1)
    go_enter Try.func92, Try.ntmps92
    go_wp2_with fail
    go_quiet (fail)
    go_wp2
    go_ret
    exact ⟨ret_bool HE.out.symm, below_drewN (Below.refl _ _) _⟩

set_option maxHeartbeats 4000000 in
theorem l4good_any (P : Prof) (v : Value) (acc x short : Int) (w : World) (hl : P.Lies w v) :
    Calls Try.prog 82 #[v, .int .i64 acc, .int .i64 x, .int .i64 short] w fun e w' => e = .returned (.bool (P.runGood acc x short)) ∧ Below w.heap.size w w' := by
  have HV : Hid (P.Lies w v) := hl
  obtain ⟨ap, cp, az, cz, rfl, hn, hn', hr2, hr3⟩ := hl
  clear hr2 hr3
  go_enter Try.func82, Try.ntmps82
  go_wp2_with fail
  generalize hW : w.alloc _ = W
  have bW : Below w.heap.size w W := by rw [← hW]; exact (Below.refl _ _).alloc (Nat.le_refl _) _
  have hbox : P.BoxAt W w.heap.size ap az cp cz := by subst hW; exact ⟨by go_simp, by go_simp, by go_simp, by go_simp, by go_simp⟩
  clear hW
  refine (specOk_any P _ _ (HV.out.below bW)).mono ?_
  rintro e w1 ⟨rfl, hb1⟩
  have b1 := bW.trans (hb1.mono bW.size)
  obtain ⟨x0, x1, x2, x3, x4⟩ := hbox.below hb1
  clear hb1 bW hbox x0 x1 x2 x4
  by_cases hc : P.code = 0
  · have HOK : Hid P.Ok := Prof.code_zero.1 hc
    obtain ⟨f0, f1⟩ := HOK.out.fin
    have ht := (Prof.total_bounds HOK.out.lens).2
    rw [hc]
    clear hc
    by_cases ha : 1 ≤ acc ∧ acc ≤ 20
    · by_cases hx : 0 ≤ x ∧ x ≤ P.fin
      · by_cases hd : P.fin - x ≤ 2000
        · by_cases hs : 0 ≤ short ∧ short ≤ 2000
          · have HG : Hid (P.runGood acc x short = true) := Prof.runGood_iff.2 ⟨HOK.out, ha, hx, hd, hs⟩
            go_wp2_with (go_at_call 63; first | (refine (l1in_yes _ _ _ _ (by omega) (by omega)).mono ?_; rintro e w3 ⟨rfl, rfl⟩) | (refine (l1in_no _ _ _ _ (by omega)).mono ?_; rintro e w3 ⟨rfl, rfl⟩))
            go_ret
            exact ⟨ret_boolB (by rw [HG.out]), b1⟩
          · have HG : Hid (P.runGood acc x short = false) := by show _ = _; cases h : P.runGood acc x short with | false => rfl | true => exact absurd (Prof.runGood_iff.1 h).2.2.2.2 hs
            go_wp2_with (go_at_call 63; first | (refine (l1in_yes _ _ _ _ (by omega) (by omega)).mono ?_; rintro e w3 ⟨rfl, rfl⟩) | (refine (l1in_no _ _ _ _ (by omega)).mono ?_; rintro e w3 ⟨rfl, rfl⟩))
            go_ret
            exact ⟨ret_boolB (by rw [HG.out]), b1⟩
        · have hd' : decide (P.fin - x ≤ 2000) = false := by simpa using hd
          have HG : Hid (P.runGood acc x short = false) := by show _ = _; cases h : P.runGood acc x short with | false => rfl | true => exact absurd (Prof.runGood_iff.1 h).2.2.2.1 hd
          go_wp2_with (go_at_call 63; first | (refine (l1in_yes _ _ _ _ (by omega) (by omega)).mono ?_; rintro e w3 ⟨rfl, rfl⟩) | (refine (l1in_no _ _ _ _ (by omega)).mono ?_; rintro e w3 ⟨rfl, rfl⟩))
          go_ret
          exact ⟨ret_boolB (by rw [HG.out]), b1⟩
      · have HG : Hid (P.runGood acc x short = false) := by show _ = _; cases h : P.runGood acc x short with | false => rfl | true => exact absurd (Prof.runGood_iff.1 h).2.2.1 hx
        go_wp2_with (go_at_call 63; first | (refine (l1in_yes _ _ _ _ (by omega) (by omega)).mono ?_; rintro e w3 ⟨rfl, rfl⟩) | (refine (l1in_no _ _ _ _ (by omega)).mono ?_; rintro e w3 ⟨rfl, rfl⟩))
        go_ret
        exact ⟨ret_boolB (by rw [HG.out]), b1⟩
    · have HG : Hid (P.runGood acc x short = false) := by show _ = _; cases h : P.runGood acc x short with | false => rfl | true => exact absurd (Prof.runGood_iff.1 h).2.1 ha
      go_wp2_with (go_at_call 63; first | (refine (l1in_yes _ _ _ _ (by omega) (by omega)).mono ?_; rintro e w3 ⟨rfl, rfl⟩) | (refine (l1in_no _ _ _ _ (by omega)).mono ?_; rintro e w3 ⟨rfl, rfl⟩))
      go_ret
      exact ⟨ret_boolB (by rw [HG.out]), b1⟩
  · have hc' : (P.code == 0) = false := by simpa using hc
    have HG : Hid (P.runGood acc x short = false) := by show _ = _; cases h : P.runGood acc x short with | false => rfl | true => exact absurd (Prof.code_ok (Prof.runGood_iff.1 h).1) hc
    clear hc
    go_wp2
    go_ret
    exact ⟨ret_boolB (by rw [HG.out]), b1⟩

set_option maxRecDepth 20000 in
set_option maxHeartbeats 8000000 in
theorem specRunOk_yes (P : Prof) (v : Value) (acc x short : Int) (a : Option Addr) (n c : Nat) (z : Nat → Int) (w : World) (hl : P.Lies w v) (hz : Row1 w a n z) (hn : n ≤ 2000) (hg : P.runGood acc x short = true) :
    Calls Try.prog 39 #[v, .int .i64 acc, .int .i64 x, .int .i64 short, .slice a n c] w fun e w' => e = .returned (.bool (P.isRun acc x short z n)) ∧ Below w.heap.size w w' := by
  have HV : Hid (P.Lies w v) := hl
  have HZ : Hid (Row1 w a n z) := hz
  obtain ⟨hok, ⟨a0, a1⟩, ⟨g0, g1⟩, g2, ⟨s0, s1⟩⟩ := Prof.runGood_iff.1 hg
  have HG : Hid (P.runGood acc x short = true) := hg
  have HOK : Hid P.Ok := hok
  obtain ⟨f0, f1⟩ := hok.fin
  have ht := (Prof.total_bounds hok.lens).2
  obtain ⟨ap, cp, az, cz, rfl, hnp, hnz, hr2, hr3⟩ := hl
  have h5' : decide (2000 < (n : Int)) = false := by simp; omega
  clear hr2 hr3 hz hok hg
  go_enter Try.func39, Try.ntmps39
  go_wp2_with fail
  generalize hW : w.alloc _ = W
  have bW : Below w.heap.size w W := by rw [← hW]; exact (Below.refl _ _).alloc (Nat.le_refl _) _
  have hbox : P.BoxAt W w.heap.size ap az cp cz := by subst hW; exact ⟨by go_simp, by go_simp, by go_simp, by go_simp, by go_simp⟩
  clear hW
  refine (l4good_any P _ acc x short _ (HV.out.below bW)).mono ?_
  rintro e w1 ⟨rfl, hb1⟩
  rw [HG.out]
  have b1 := bW.trans (hb1.mono bW.size)
  have HB1 : Hid (P.BoxAt w1 w.heap.size ap az cp cz) := hbox.below hb1
  obtain ⟨x0, x1, x2, x3, x4⟩ := HB1.out
  clear hb1 bW hbox
  obtain ⟨W3, hW3⟩ : ∃ W3, w1.alloc (.cells #[.slice ap P.np cp, .slice az P.nz cz, .int .i64 P.train, .int .i64 P.fin, .int .i64 P.delay, .int .i64 acc, .int .i64 x, .int .i64 short, .slice none 0 0] 115) = W3 := ⟨_, rfl⟩
  have bq3 : Below w1.heap.size w1 W3 := by rw [← hW3]; exact (Below.refl _ _).alloc (Nat.le_refl _) _
  have b3 := b1.trans (bq3.mono b1.size)
  have HG3 : Hid (P.GAt W3 w1.heap.size ap az cp cz acc x short) := by show Prof.GAt _ _ _ _ _ _ _ _ _ _; subst hW3; exact ⟨⟨by go_simp, by go_simp, by go_simp, by go_simp, by go_simp⟩, by go_simp, by go_simp, by go_simp⟩
  have HB3 : Hid (P.BoxAt W3 w.heap.size ap az cp cz) := HB1.out.below bq3
  go_wp2_with fail
  have hrP : ∀ y, 1 ≤ P.rate y := HOK.out.rates
  have HRT : Hid (∀ y, 1 ≤ P.rate y) := hrP
  have HIN : Hid (∀ k, P.goesTo acc x z k = true → 0 ≤ (rst z k).1 ∧ x + (rst z k).1 ≤ P.fin ∧ 0 ≤ (rst z k).2 ∧ (rst z k).2 ≤ 60) := Prof.goesTo_in hrP (by omega) g1 z
  have HNO : Hid (∀ k, k < n → P.goesTo acc x z (k + 1) = false → P.isRun acc x short z n = false) := fun k hk h => by
    have := Prof.goesTo_no h (n - (k + 1))
    rw [show k + 1 + (n - (k + 1)) = n by omega] at this
    unfold Prof.isRun
    rw [this]; rfl
  clear hrP x0 x1 x2 x3 x4
  go_loopw [12, 13, 35] (fun sd sv i wr => ∃ k : Nat, k ≤ n ∧ i = .int .i64 k ∧ sd = .int .i64 (rst z k).1 ∧ sv = .int .i64 (rst z k).2 ∧ Hid (P.goesTo acc x z k = true) ∧ Hid (Below W3.heap.size W3 wr)) (fun _ _ i _ => n - (intOf i).toNat)
  case atStart => exact ⟨0, Nat.zero_le _, rfl, rfl, rfl, rfl, Below.refl _ _⟩
  case round =>
    clear hW3
    obtain ⟨k, hk, rfl, rfl, rfl, HGO, HQ⟩ := hrel
    have bq : Below w.heap.size w wr := b3.trans (HQ.out.mono b3.size)
    obtain ⟨i0, i1, i2, i3⟩ := HIN.out k HGO.out
    by_cases hlt : k < n
    · have hkI : (k : Int) < (n : Int) := by omega
      rcases HZ.out with h0 | ⟨bb, off, rfl, hbb, hcc⟩
      · omega
      have c0 : wr.cell? ⟨bb, off + k, none⟩ = some (.int .i64 (z k)) := (bq.cell (p := ⟨bb, off + k, none⟩) hbb).trans (hcc k hlt)
      clear hcc
      have HS1 : Hid (rst z (k + 1) = ((rst z k).1 + z k, z k)) := rfl
      have HS2 : Hid (P.goesTo acc x z (k + 1) = (P.goesTo acc x z k && P.goes acc x (rst z k).1 (rst z k).2 (z k))) := rfl
      generalize rst z k = st at *
      obtain ⟨d, v⟩ := st
      dsimp only at *
      have hls := less_bounds (v := v) (b := P.rate (x + d)) i2 (by have := HRT.out (x + d); omega)
      obtain ⟨ls0, ls1⟩ := hls
      obtain ⟨hh0, hh1⟩ := high_le (acc := acc) (v := v) (by omega) i2 i3
      have HGS : Hid (P.goes acc x d v (z k) = (decide (less v (P.rate (x + d)) ≤ z k ∧ z k ≤ high acc v) && P.may (x + d) (z k))) := rfl
      generalize z k = q at *
      go_wp2_with fail
      refine (low_any P _ _ ap az cp cz acc x short d v (HG3.out.below HQ.out) (HV.out.below bq) HOK.out g0 (by omega) i0 (by omega) i2 i3).mono ?_
      rintro e w4 ⟨rfl, hb4⟩
      have t4 := HQ.out.trans (hb4.mono HQ.out.size)
      have bq4 := bq.trans (hb4.mono bq.size)
      clear hb4 c0
      generalize less v (P.rate (x + d)) = lo at *
      by_cases hlo : q < lo
      · have HE : Hid (P.isRun acc x short z n = false) := HNO.out k hlt (by rw [HS2.out, HGS.out, decide_eq_false (fun c => by omega)]; simp)
        go_wp2
        go_ret
        exact ⟨ret_boolB HE.out.symm, bq4⟩
      · have hlo' : decide (q < lo) = false := by simpa using hlo
        go_wp2_with fail
        refine (high_any P _ _ ap az cp cz acc x short v (HG3.out.below t4) (by omega) a1 i2 i3).mono ?_
        rintro e w5 ⟨rfl, hb5⟩
        have t5 := t4.trans (hb5.mono t4.size)
        have bq5 := bq4.trans (hb5.mono bq4.size)
        clear hb5
        generalize high acc v = hi at *
        by_cases hhi : hi < q
        · have HE : Hid (P.isRun acc x short z n = false) := HNO.out k hlt (by rw [HS2.out, HGS.out, decide_eq_false (fun c => by omega)]; simp)
          go_wp2
          go_ret
          exact ⟨ret_boolB HE.out.symm, bq5⟩
        · have hhi' : decide (hi < q) = false := by simpa using hhi
          obtain ⟨x0, x1, x2, x3, x4⟩ := HB3.out.below t5
          go_wp2_with fail
          refine (l3may_any P _ (x + d) q _ (HV.out.below bq5) HOK.out (by omega) (by omega) (by omega) (by omega)).mono ?_
          rintro e w6 ⟨rfl, hb6⟩
          have t6 := t5.trans (hb6.mono t5.size)
          have bq6 := bq5.trans (hb6.mono bq5.size)
          clear hb6 x0 x1 x2 x3 x4
          cases hm : P.may (x + d) q with
          | false =>
            have HE : Hid (P.isRun acc x short z n = false) := HNO.out k hlt (by rw [HS2.out, HGS.out, hm]; simp)
            clear hm
            go_wp2
            go_ret
            exact ⟨ret_boolB HE.out.symm, bq6⟩
          | true =>
            have HGN : Hid (P.goesTo acc x z (k + 1) = true) := by show _ = _; rw [HS2.out, HGO.out, HGS.out, hm, decide_eq_true ⟨by omega, by omega⟩]; rfl
            clear hm
            go_wp2
            go_roundw
            case rel => exact ⟨k + 1, by omega, by go_num, by rw [HS1.out], by rw [HS1.out], HGN.out, t6⟩
            case measure => simp [intOf]; omega
    · have ek : k = n := by omega
      subst ek
      have HE : Hid (P.isRun acc x short z k = P.home x short (rst z k).1 (rst z k).2) := by show _ = _; unfold Prof.isRun; rw [HGO.out]; rfl
      generalize rst z k = st at *
      obtain ⟨d, v⟩ := st
      dsimp only at *
      go_wp2_with fail
      refine (home_any P _ _ ap az cp cz acc x short d v (HG3.out.below HQ.out) g0 (by omega) i0 (by omega) s0 s1 f0 (by omega)).mono ?_
      rintro e w4 ⟨rfl, hb4⟩
      go_wp2
      go_ret
      exact ⟨ret_boolB HE.out.symm, bq.trans (hb4.mono bq.size)⟩

set_option maxHeartbeats 4000000 in
theorem specRunOk_no (P : Prof) (v : Value) (acc x short : Int) (a : Option Addr) (n c : Nat) (w : World) (hl : P.Lies w v) (hn : n ≤ 9223372036854775807) (hg : P.runGood acc x short = false ∨ 2000 < n) :
    Calls Try.prog 39 #[v, .int .i64 acc, .int .i64 x, .int .i64 short, .slice a n c] w fun e w' => e = .returned (.bool false) ∧ Below w.heap.size w w' := by
  have HV : Hid (P.Lies w v) := hl
  have HG : Hid (P.runGood acc x short = false ∨ 2000 < n) := hg
  obtain ⟨ap, cp, az, cz, rfl, hnp, hnz, hr2, hr3⟩ := hl
  clear hr2 hr3 hg
  go_enter Try.func39, Try.ntmps39
  go_wp2_with fail
  generalize hW : w.alloc _ = W
  have bW : Below w.heap.size w W := by rw [← hW]; exact (Below.refl _ _).alloc (Nat.le_refl _) _
  clear hW
  refine (l4good_any P _ acc x short _ (HV.out.below bW)).mono ?_
  rintro e w1 ⟨rfl, hb1⟩
  have b1 := bW.trans (hb1.mono bW.size)
  cases hr : P.runGood acc x short with
  | false =>
    clear hr
    go_wp2
    go_ret
    exact ⟨rfl, b1⟩
  | true =>
    have h5 : 2000 < n := by
      rcases HG.out with q | q
      · rw [hr] at q; cases q
      · exact q
    have h5i : (2000 : Int) < (n : Int) := by omega
    clear hr
    go_wp2
    go_ret
    exact ⟨rfl, b1⟩
theorem specRunOk_any (P : Prof) (v : Value) (acc x short : Int) (a : Option Addr) (n c : Nat) (z : Nat → Int) (w : World) (hl : P.Lies w v) (hz : Row1 w a n z) (hn : n ≤ 9223372036854775807) :
    Calls Try.prog 39 #[v, .int .i64 acc, .int .i64 x, .int .i64 short, .slice a n c] w fun e w' => e = .returned (.bool (P.runAns acc x short n z)) ∧ Below w.heap.size w w' := by
  cases hr : P.runGood acc x short with
  | false =>
    have e : P.runAns acc x short n z = false := by unfold Prof.runAns; rw [hr]; rfl
    rw [e]
    exact specRunOk_no P v acc x short a n c w hl hn (Or.inl hr)
  | true =>
    by_cases h : n ≤ 2000
    · have e : P.runAns acc x short n z = P.isRun acc x short z n := by unfold Prof.runAns; rw [hr, decide_eq_true h]; simp
      rw [e]
      exact specRunOk_yes P v acc x short a n c z w hl hz h hr
    · have e : P.runAns acc x short n z = false := by unfold Prof.runAns; rw [hr, decide_eq_false h]; rfl
      rw [e]
      exact specRunOk_no P v acc x short a n c w hl hn (Or.inr (by omega))

end Go.Proofs.Yteodefmpkljedaa
