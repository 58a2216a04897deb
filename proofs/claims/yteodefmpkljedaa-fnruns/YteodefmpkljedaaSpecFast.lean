/-
  The model's Fastest.
-/
import Derived.Test.YteodefmpkljedaaTrip
import Derived.Test.YteodefmpkljedaaSpecFill
import Derived.Test.YteodefmpkljedaaSpecWatch2
namespace Go.Proofs.Yteodefmpkljedaa
open Go.RowKit Go.Sort Go.Shelf
attribute [local go_sem ↓] Go.wp_at_zero Go.wp_at_succ
set_option linter.unusedVariables false
set_option linter.unusedSimpArgs false

/-- The three cells of a run that is told. -/
def r3 (b : Bool) (t : Int) (v : Value) (i : Nat) : Value := if i = 0 then .bool b else if i = 1 then .int .i64 t else v
theorem cases3 {Q : Nat → Prop} (h0 : Q 0) (h1 : Q 1) (h2 : Q 2) : ∀ j, j < 3 → Q j := fun j hj => match j, hj with
  | 0, _ => h0
  | 1, _ => h1
  | 2, _ => h2
/-- A list by its numbers. -/
def nth (l : List Int) (j : Nat) : Int := l.getD j 0
/-- The fastest run's first k speeds; what is left of it. -/
theorem Prof.fastL_step (P : Prof) (acc x : Int) (L : Nat → Int) (k : Nat) (d v : Int) : P.fastL acc x L (k + 1) d v = P.fleet acc x L k d v :: P.fastL acc x L k (d + P.fleet acc x L k d v) (P.fleet acc x L k d v) := rfl
theorem nth_app (pre : List Int) (a : Int) (t : List Int) : nth (pre ++ a :: t) pre.length = a := by unfold nth; simp

/-- What holds while the run is told. -/
def FS (P : Prof) (w y : World) (G B N Ob : Nat) (ap az : Option Addr) (cp cz : Nat) (acc x short : Int) (L : Nat → Int) (sv : Value) (k : Nat) (xs : List Value) (T : Int) : Prop :=
  y.rowIs (w.heap.size + 1) 48 3 (r3 false 0 (.slice none 0 0)) ∧ y.rowIs Ob 48 3 (r3 true T sv) ∧ y.ownsRow (Ob + 1) 3 1 sv k xs ∧ P.BoxAt y w.heap.size ap az cp cz ∧ y.rowIs G 115 9 (P.g9 ap az cp cz acc x short (.slice (some ⟨B, 0, none⟩) N N)) ∧ y.rowIs B 3 N (fun i => .int .i64 (L i)) ∧ Below w.heap.size w y
theorem FS.below {P : Prof} {w y y1 : World} {G B N Ob : Nat} {ap az : Option Addr} {cp cz : Nat} {acc x short : Int} {L : Nat → Int} {sv : Value} {k : Nat} {xs : List Value} {T : Int} (h : FS P w y G B N Ob ap az cp cz acc x short L sv k xs T) (hb : Below y.heap.size y y1) : FS P w y1 G B N Ob ap az cp cz acc x short L sv k xs T := by
  obtain ⟨o1, o2, o3, o4, o6, o7, o5⟩ := h
  exact ⟨rowIs_below o1 hb, rowIs_below o2 hb, ownsRow_below o3 hb, o4.below hb, rowIs_below o6 hb, rowIs_below o7 hb, o5.trans (hb.mono o5.size)⟩
/-- A speed more. -/
theorem FS.push {P : Prof} {w y y1 : World} {G B N Ob : Nat} {ap az : Option Addr} {cp cz : Nat} {acc x short : Int} {L : Nat → Int} {sv sv' : Value} {k : Nat} {xs xs' : List Value} {T : Int} (h : FS P w y G B N Ob ap az cp cz acc x short L sv k xs T) (hO : w.heap.size + 1 < Ob) (hG : G < Ob) (hB : B < Ob) (o : Obj) (hg : (y.alloc o).grownBy y1 sv.ownBlock) (hown : y1.ownsRow (Ob + 1) 3 1 sv' (k + 1) xs') :
    y1.rowIs Ob 48 3 (r3 true T sv) ∧ FS P w (y1.setCell ⟨Ob, 2, none⟩ sv') G B N Ob ap az cp cz acc x short L sv' (k + 1) xs' T := by
  obtain ⟨o1, o2, o3, o4, o6, o7, o5⟩ := h
  have hob := ownsRow_block o3
  have p1 := watch_row (o1.alloc o) hg (fun e => by have := hob _ e.symm; omega)
  have p2 := watch_row (o2.alloc o) hg (fun e => by have := hob _ e.symm; omega)
  have p6 := watch_row (o6.alloc o) hg (fun e => by have := hob _ e.symm; omega)
  have p7 := watch_row (o7.alloc o) hg (fun e => by have := hob _ e.symm; omega)
  have p4 := watch_box (o4.below ((Below.refl _ _).alloc (Nat.le_refl _) o)) hg (fun e => by have := hob _ e.symm; omega)
  have p5 := (o5.alloc o5.size o).grown hg (by have := o5.size; simp; omega) (fun j e => by have := hob _ e; omega)
  have gs := watch_set y1 Ob 2 sv'
  exact ⟨p2, p1.setOther (by show w.heap.size + 1 ≠ Ob; omega) _, (p2.set 2 _).congr (cases3 rfl rfl rfl), owned_grown hown gs (fun j e he => by have h1 := ownsRow_block hown j he; have h2 := Option.some.inj e; omega), watch_box p4 gs (fun e => by have h2 := Option.some.inj e; omega), p6.setOther (by show G ≠ Ob; omega) _, p7.setOther (by show B ≠ Ob; omega) _, p5.setCell (by show w.heap.size ≤ Ob; omega) _⟩

set_option maxRecDepth 20000 in
set_option maxHeartbeats 80000000 in
theorem specFastest_yes {Fw : Few} (P : Prof) (v : Value) (acc x short : Int) (w : World) (hl : P.Lies w v) (h : Fw.hasRun P acc x short) :
    Calls Try.prog 35 #[v, .int .i64 acc, .int .i64 x, .int .i64 short] w fun e w' => ∃ v', e = .returned (.agg #[.bool true, .int .i64 (Fw.runT P acc x short), v']) ∧ w'.ownsRow (w.heap.size + 1) 3 1 v' (Fw.runT P acc x short) (singles (nth (Fw.runL P acc x short)) (Fw.runT P acc x short)) ∧ Below w.heap.size w w' := by
  have HV : Hid (P.Lies w v) := hl
  obtain ⟨i0, hi, hz0, hz1, hz2⟩ := info_parts Try.infoIntW
  have HH : Hid (Fw.hasRun P acc x short) := h
  obtain ⟨hg, hf0, hf1⟩ := h
  have HGD : Hid (P.runGood acc x short = true) := hg
  obtain ⟨hok, ⟨a0, a1⟩, ⟨g0, g1⟩, g2, ⟨s0, s1⟩⟩ := Prof.runGood_iff.1 hg
  have HOK : Hid P.Ok := hok
  obtain ⟨f0, f1⟩ := hok.fin
  have ht := (Prof.total_bounds hok.lens).2
  obtain ⟨ap, cp, az, cz, rfl, hnp, hnz, hr2, hr3⟩ := hl
  clear hr2 hr3 hg hok
  go_enter Try.func35, Try.ntmps35
  go_wp2_with fail
  generalize hW : (w.alloc _).alloc _ = W
  have bW : Below w.heap.size w W := by rw [← hW]; exact ((Below.refl _ _).alloc (Nat.le_refl _) _).alloc (by simp) _
  have sW : W.heap.size = w.heap.size + 2 := by rw [← hW]; simp
  have hbox : P.BoxAt W w.heap.size ap az cp cz := by subst hW; exact ⟨by go_simp, by go_simp, by go_simp, by go_simp, by go_simp⟩
  have rR : W.rowIs (w.heap.size + 1) 48 3 (r3 false 0 (.slice none 0 0)) := by
    have := World.rowIs_alloc (w.alloc (.cells #[.slice ap P.np cp, .slice az P.nz cz, .int .i64 P.train, .int .i64 P.fin, .int .i64 P.delay] 26)) #[.bool false, .int .i64 0, .slice none 0 0] 48 (r3 false 0 (.slice none 0 0)) (fun i hi => by simp at hi; match i, hi with | 0, _ => rfl | 1, _ => rfl | 2, _ => rfl)
    rw [World.size_alloc] at this
    rw [← hW]; exact this
  clear hW
  refine (l4good_any P _ acc x short _ (HV.out.below bW)).mono ?_
  rintro e w1 ⟨rfl, hb1⟩
  rw [HGD.out]
  have b1 := bW.trans (hb1.mono bW.size)
  have s1' := hb1.size
  have H1 : Hid (w1.rowIs (w.heap.size + 1) 48 3 (r3 false 0 (.slice none 0 0)) ∧ P.BoxAt w1 w.heap.size ap az cp cz) := ⟨rowIs_below rR hb1, hbox.below hb1⟩
  obtain ⟨x0, x1, x2, x3, x4⟩ := H1.out.2
  clear hb1 bW hbox rR
  obtain ⟨G, hG⟩ : ∃ G, w1.heap.size = G := ⟨_, rfl⟩
  obtain ⟨W3, hW3⟩ : ∃ W3, w1.alloc (.cells #[.slice ap P.np cp, .slice az P.nz cz, .int .i64 P.train, .int .i64 P.fin, .int .i64 P.delay, .int .i64 acc, .int .i64 x, .int .i64 short, .slice none 0 0] 115) = W3 := ⟨_, rfl⟩
  have bq3 : Below w1.heap.size w1 W3 := by rw [← hW3]; exact (Below.refl _ _).alloc (Nat.le_refl _) _
  have b3 := b1.trans (bq3.mono b1.size)
  have s3 : W3.heap.size = G + 1 := by rw [← hW3, ← hG]; simp
  have HG3 : Hid (W3.rowIs G 115 9 (P.g9 ap az cp cz acc x short (.slice none 0 0))) := by
    show World.rowIs _ _ _ _ _
    rw [← hW3, ← hG]
    exact World.rowIs_alloc w1 #[.slice ap P.np cp, .slice az P.nz cz, .int .i64 P.train, .int .i64 P.fin, .int .i64 P.delay, .int .i64 acc, .int .i64 x, .int .i64 short, .slice none 0 0] 115 (P.g9 ap az cp cz acc x short (.slice none 0 0)) (fun i hi => by simp at hi; match i, hi with | 0, _ => rfl | 1, _ => rfl | 2, _ => rfl | 3, _ => rfl | 4, _ => rfl | 5, _ => rfl | 6, _ => rfl | 7, _ => rfl | 8, _ => rfl)
  go_wp2_with fail
  clear hW3 x0 x1 x2 x3 x4
  refine (fill_any P w1 W3 G ap az cp cz acc x short HG3.out (HV.out.below b1) bq3 (by omega) HGD.out).mono ?_
  rintro e w4 ⟨rfl, B, N, L, hGB, hN, hg4, ht4, hfw, hout, b4⟩
  have H4 : Hid (w4.rowIs (w.heap.size + 1) 48 3 (r3 false 0 (.slice none 0 0)) ∧ P.BoxAt w4 w.heap.size ap az cp cz) := ⟨rowIs_below H1.out.1 b4, H1.out.2.below b4⟩
  have HG4 : Hid (w4.rowIs G 115 9 (P.g9 ap az cp cz acc x short (.slice (some ⟨B, 0, none⟩) N N))) := hg4
  have HT4 : Hid (w4.rowIs B 3 N (fun i => .int .i64 (L i))) := ht4
  have HSM : Hid (SameTo 2000 L (Fw.few P acc x short)) := hfw.sameTo (Fw.is P acc x short) 2000
  have HFW : Hid (Fewest (P.way acc x) (P.homeN x short) L) := hfw
  have hk0 : L (stn 0 0) = (Fw.runT P acc x short : Nat) := (HSM.out (stn 0 0) _ (by unfold Few.runT; omega)).2 (by unfold Few.runT; omega)
  have hT : Fw.runT P acc x short ≤ 2000 := by unfold Few.runT; omega
  have HRL : Hid (P.fastL acc x L (Fw.runT P acc x short) 0 0 = Fw.runL P acc x short) := P.fastL_congr HSM.out _ 0 0 hT
  have b4' : Below w.heap.size w w4 := b1.trans (b4.mono b1.size)
  have hBl := ht4.lt
  have hGl := hg4.lt
  have c8 : w4.cell? ⟨G, 8, none⟩ = some (.slice (some ⟨B, 0, none⟩) N N) := hg4.cell (i := 8) (by omega)
  have hN0 : stn 0 0 < N := by unfold stn; omega
  have c0 : w4.cell? ⟨B, stn 0 0, none⟩ = some (.int .i64 (Fw.runT P acc x short : Nat)) := by rw [← hk0]; exact ht4.cell (i := stn 0 0) hN0
  have hN1 : ((stn 0 0 : Nat) : Int) < (N : Int) := by omega
  have HAT : Hid (∀ (Wd : World) (d u : Int), 0 ≤ d → d ≤ 2000 → 0 ≤ u → u ≤ 60 → Calls Try.prog 84 #[.pointer (some ⟨G, 0, none⟩), .int .i64 d, .int .i64 u] Wd fun e w' => e = .returned (.int .i64 (stn d u : Nat)) ∧ w' = Wd) := fun Wd d u d0 d1 u0 u1 => at_any Wd _ d u d0 d1 u0 u1
  have HKK : Hid (L (stn 0 0) = (Fw.runT P acc x short : Nat)) := hk0
  clear hg4 ht4 hfw b4 bq3 H1 hk0
  generalize hs00 : stn 0 0 = z00 at *
  generalize hKT : Fw.runT P acc x short = K at *
  have HKT : Hid (Fw.runT P acc x short = K) := hKT
  clear hKT
  have hk1 : decide ((K : Int) < 0) = false := by simp
  have hk2 : decide ((2000 : Int) < (K : Int)) = false := by simp; omega
  have HA0 : Hid (∀ Wd : World, Calls Try.prog 84 #[.pointer (some ⟨G, 0, none⟩), .int .i64 0, .int .i64 0] Wd fun e w' => e = .returned (.int .i64 (z00 : Nat)) ∧ w' = Wd) := fun Wd => by rw [← hs00]; exact HAT.out Wd 0 0 (by omega) (by omega) (by omega) (by omega)
  have y8 := cell_regrown c8
  have y0 := cell_regrown c0
  go_wp2_with fail
  refine wp_region_quiet_below (by kernel_rfl) (by kernel_rfl) ?_
  repeat (go_big_quiet_step (first | (go_at_call 84; exact Calls.regrown_same (HA0.out _))))
  refine wpQuiet_nil ?_
  intro _ hw'
  obtain ⟨⟨dq, osq⟩, hw''⟩ := hw'
  subst hw''
  have hq := below_regrown w4 dq osq
  have H5 : Hid ((Sort.grow (redrawn w4 dq) osq).rowIs (w.heap.size + 1) 48 3 (r3 false 0 (.slice none 0 0)) ∧ P.BoxAt (Sort.grow (redrawn w4 dq) osq) w.heap.size ap az cp cz) := ⟨rowIs_below H4.out.1 hq, H4.out.2.below hq⟩
  have HG5 : Hid ((Sort.grow (redrawn w4 dq) osq).rowIs G 115 9 (P.g9 ap az cp cz acc x short (.slice (some ⟨B, 0, none⟩) N N))) := rowIs_below HG4.out hq
  have HT5 : Hid ((Sort.grow (redrawn w4 dq) osq).rowIs B 3 N (fun i => .int .i64 (L i))) := rowIs_below HT4.out hq
  have b5 := b4'.trans (hq.mono b4'.size)
  have s5 := hq.size
  generalize Sort.grow (redrawn w4 dq) osq = W5 at *
  clear y8 y0 c8 c0 hq HG4 HT4 H4 b4' HA0
  obtain ⟨Ob, hOb⟩ : ∃ Ob, W5.heap.size = Ob := ⟨_, rfl⟩
  have hO1 : w.heap.size + 1 < Ob := by omega
  have hO2 : G < Ob := by omega
  have hO3 : B < Ob := by omega
  go_wp2_with fail
  have H6 : Hid (FS P w (W5.alloc (.cells #[.bool true, .int .i64 K, .slice none 0 0] 48)) G B N Ob ap az cp cz acc x short L (.slice none 0 0) 0 [] K) := by
    have bq : Below W5.heap.size W5 (W5.alloc (.cells #[.bool true, .int .i64 K, .slice none 0 0] 48)) := (Below.refl _ _).alloc (Nat.le_refl _) _
    refine ⟨H5.out.1.alloc _, ?_, World.ownsRow_nil _ _ _ _, H5.out.2.below bq, rowIs_below HG5.out bq, rowIs_below HT5.out bq, b5.alloc b5.size _⟩
    have := World.rowIs_alloc W5 #[.bool true, .int .i64 K, .slice none 0 0] 48 (r3 true K (.slice none 0 0)) (fun i hi => by simp at hi; match i, hi with | 0, _ => rfl | 1, _ => rfl | 2, _ => rfl)
    rw [hOb] at this
    exact this
  have hsz6 : Ob < (W5.alloc (.cells #[.bool true, .int .i64 K, .slice none 0 0] 48)).heap.size := by simp; omega
  have HK0 : Hid (L (stn 0 0) = (K : Nat)) := by show _ = _; rw [hs00]; exact HKK.out
  have HRT : Hid (∀ y, 1 ≤ P.rate y) := fun y => by have := (HOK.out.rate y).1; omega
  go_loopw [10, 11, 12] (fun sd sv sk wr => ∃ (k : Nat) (d u : Int) (pre : List Int) (vv : Value), k ≤ K ∧ sd = .int .i64 d ∧ sv = .int .i64 u ∧ sk = .int .i64 k ∧ (0 ≤ d ∧ x + d ≤ P.fin) ∧ (0 ≤ u ∧ u ≤ 60) ∧ Hid (L (stn d u) = k) ∧ pre.length + k = K ∧ Hid (pre ++ P.fastL acc x L k d u = Fw.runL P acc x short) ∧ Ob < wr.heap.size ∧ Hid (FS P w wr G B N Ob ap az cp cz acc x short L vv pre.length (singles (nth (Fw.runL P acc x short)) pre.length) K)) (fun _ _ sk _ => (intOf sk).toNat)
  case atStart => exact ⟨K, 0, 0, [], _, Nat.le_refl _, rfl, rfl, rfl, ⟨by omega, by omega⟩, ⟨by omega, by omega⟩, HK0.out, by simp, by show _ = _; rw [List.nil_append]; exact HRL.out, hsz6, H6.out⟩
  case round =>
    clear H5 H6 HG5 HT5 b5 hsz6 HK0 HRL hOb s5 hk1 hk2
    obtain ⟨k, d, u, pre, vv, hk, rfl, rfl, rfl, ⟨d0, d1⟩, ⟨u0, u1⟩, HLK, hpre, HPL, hsz, HF⟩ := hrel
    by_cases hlt : 0 < k
    · obtain ⟨k', rfl⟩ : ∃ k', k = k' + 1 := ⟨k - 1, by omega⟩
      obtain ⟨hgo, hLn, _⟩ := P.fleet_is HRT.out (by omega) HFW.out d0 d1 u0 u1 HLK.out
      have HPL' : Hid (pre ++ P.fleet acc x L k' d u :: P.fastL acc x L k' (d + P.fleet acc x L k' d u) (P.fleet acc x L k' d u) = Fw.runL P acc x short) := HPL.out
      have hgi := Prof.goes_in HRT.out (by omega) u0 u1 hgo
      obtain ⟨F0, F1, F2⟩ := hgi
      have hls := less_bounds (v := u) (b := P.rate (x + d)) u0 (by have := HRT.out (x + d); omega)
      obtain ⟨ls0, ls1⟩ := hls
      obtain ⟨hh0, hh1⟩ := high_le (acc := acc) (v := u) (by omega) u0 u1
      have HFL : Hid (bestUp (fun q => P.may (x + d) q && decide (L (stn (d + q) q) = (k' : Int))) (less u (P.rate (x + d))) (high acc u + 1 - less u (P.rate (x + d))).toNat 0 = P.fleet acc x L k' d u) := rfl
      have hlh : less u (P.rate (x + d)) ≤ high acc u + 1 := by have : u ≤ high acc u + 1 := by unfold high; split <;> omega
                                                                omega
      have HLN : Hid (L (stn (d + P.fleet acc x L k' d u) (P.fleet acc x L k' d u)) = (k' : Nat)) := hLn
      clear HPL hgo hLn HLK
      generalize P.fleet acc x L k' d u = F at *
      have hlt' : (0 : Int) < ((k' + 1 : Nat) : Int) := by omega
      go_wp2_with fail
      refine (low_any P _ G ap az cp cz acc x short d u (Prof.g9_at HF.out.2.2.2.2.1) (HV.out.below HF.out.2.2.2.2.2.2) HOK.out g0 (by omega) d0 (by omega) u0 u1).mono ?_
      rintro e w7 ⟨rfl, hb7⟩
      have HF7 : Hid (FS P w w7 G B N Ob ap az cp cz acc x short L vv pre.length (singles (nth (Fw.runL P acc x short)) pre.length) K) := HF.out.below hb7
      have hsz7 : Ob < w7.heap.size := Nat.lt_of_lt_of_le hsz hb7.size
      clear HF hb7 hsz
      generalize less u (P.rate (x + d)) = lo at *
      generalize hHI : high acc u = hi' at *
      have HHI : Hid (high acc u = hi') := hHI
      clear hHI
      go_wp2_with fail
      go_loopw [14, 15] (fun sb sq wr => ∃ best q : Int, sb = .int .i64 best ∧ sq = .int .i64 q ∧ lo ≤ q ∧ q ≤ hi' + 1 ∧ Hid (bestUp (fun q => P.may (x + d) q && decide (L (stn (d + q) q) = (k' : Int))) q (hi' + 1 - q).toNat best = F) ∧ Ob < wr.heap.size ∧ Hid (FS P w wr G B N Ob ap az cp cz acc x short L vv pre.length (singles (nth (Fw.runL P acc x short)) pre.length) K)) (fun _ sq _ => (hi' + 1 - intOf sq).toNat)
      case atStart => exact ⟨0, lo, rfl, rfl, Int.le_refl _, hlh, HFL.out, hsz7, HF7.out⟩
      case round =>
        clear HFL HF7 hsz7
        obtain ⟨best, q, rfl, rfl, hq0, hq1, HBU, hsz8, HF8⟩ := hrel
        go_wp2_with fail
        refine (high_any P _ G ap az cp cz acc x short u (Prof.g9_at HF8.out.2.2.2.2.1) (by omega) (by omega) u0 u1).mono ?_
        rintro e w9 ⟨rfl, hb9⟩
        have HF9 : Hid (FS P w w9 G B N Ob ap az cp cz acc x short L vv pre.length (singles (nth (Fw.runL P acc x short)) pre.length) K) := HF8.out.below hb9
        have hsz9 : Ob < w9.heap.size := Nat.lt_of_lt_of_le hsz8 hb9.size
        clear HF8 hb9 hsz8
        rw [HHI.out]
        by_cases hqh : q ≤ hi'
        · have HBU' : Hid (bestUp (fun q => P.may (x + d) q && decide (L (stn (d + q) q) = (k' : Int))) (q + 1) (hi' + 1 - (q + 1)).toNat (if (P.may (x + d) q && decide (L (stn (d + q) q) = (k' : Int))) = true then q else best) = F) := by
            have h := HBU.out
            rw [show (hi' + 1 - q).toNat = (hi' + 1 - (q + 1)).toNat + 1 by omega] at h
            exact h
          clear HBU
          have cM : ∀ dd os, Calls Try.prog 87 #[.agg #[.slice ap P.np cp, .slice az P.nz cz, .int .i64 P.train, .int .i64 P.fin, .int .i64 P.delay], .int .i64 (x + d), .int .i64 q] (Sort.grow (redrawn w9 dd) os) fun e w'' => e = .returned (.bool (P.may (x + d) q)) ∧ ∃ p : Regrown, w'' = Sort.grow (redrawn w9 p.d) p.os := fun dd os => Calls.regrown_of (l3may_any P _ _ _ _ ((HV.out.below HF9.out.2.2.2.2.2.2).below (below_regrown w9 dd os)) HOK.out (by omega) (by omega) (by omega) (by omega))
          obtain ⟨e0, e1, e2, e3, e4⟩ := HF9.out.2.2.2.1
          have z0 := cell_regrown e0
          have z1 := cell_regrown e1
          have z2 := cell_regrown e2
          have z3 := cell_regrown e3
          have z4 := cell_regrown e4
          have z8 := cell_regrown (show w9.cell? ⟨G, 8, none⟩ = some (.slice (some ⟨B, 0, none⟩) N N) from HF9.out.2.2.2.2.1.cell (i := 8) (by omega))
          clear e0 e1 e2 e3 e4
          cases hm : P.may (x + d) q with
          | false =>
            rw [hm] at HBU' cM
            clear hm
            go_wp2_with fail
            refine wp_region_quiet_below (by kernel_rfl) (by kernel_rfl) ?_
            repeat (go_big_quiet_step (first | (go_at_call 87; exact cM _ _)))
            refine wpQuiet_nil ?_
            intro _ hw'
            obtain ⟨⟨dq9, osq9⟩, hw''⟩ := hw'
            subst hw''
            have hq9 := below_regrown w9 dq9 osq9
            have HF10 : Hid (FS P w (Sort.grow (redrawn w9 dq9) osq9) G B N Ob ap az cp cz acc x short L vv pre.length (singles (nth (Fw.runL P acc x short)) pre.length) K) := HF9.out.below hq9
            have hsz10 : Ob < (Sort.grow (redrawn w9 dq9) osq9).heap.size := Nat.lt_of_lt_of_le hsz9 hq9.size
            clear z0 z1 z2 z3 z4 z8 cM hq9 HF9 hsz9
            generalize Sort.grow (redrawn w9 dq9) osq9 = W10 at *
            go_wp2
            go_roundw
            case rel => exact ⟨best, q + 1, rfl, by go_num, by omega, by omega, by show _ = _; simpa using HBU'.out, hsz10, HF10.out⟩
            case measure => simp [intOf]; omega
          | true =>
            have hme := Prof.may_end hm
            have hst : ((stn (d + q) q : Nat) : Int) = (d + q) * 61 + q := stn_of (by omega) (by omega) (by omega)
            have hsn : stn (d + q) q < N := by omega
            have HAq : Hid (∀ Wd : World, Calls Try.prog 84 #[.pointer (some ⟨G, 0, none⟩), .int .i64 (d + q), .int .i64 q] Wd fun e w' => e = .returned (.int .i64 (stn (d + q) q : Nat)) ∧ w' = Wd) := fun Wd => HAT.out Wd (d + q) q (by omega) (by omega) (by omega) (by omega)
            have zt := cell_regrown (HF9.out.2.2.2.2.2.1.cell (i := stn (d + q) q) hsn)
            rw [hm] at HBU' cM
            clear hm hst
            generalize stn (d + q) q = t at *
            have hsnI : ((t : Nat) : Int) < (N : Int) := by omega
            by_cases hLt : L t = (k' : Int)
            · have hLt' : (L t == (k' : Int)) = true := by simpa using hLt
              go_wp2_with fail
              refine wp_region_quiet_below (by kernel_rfl) (by kernel_rfl) ?_
              repeat (go_big_quiet_step (first | (go_at_call 87; exact cM _ _) | (go_at_call 84; exact Calls.regrown_same (HAq.out _))))
              refine wpQuiet_nil ?_
              intro _ hw'
              obtain ⟨⟨dq9, osq9⟩, hw''⟩ := hw'
              subst hw''
              have hq9 := below_regrown w9 dq9 osq9
              have HF10 : Hid (FS P w (Sort.grow (redrawn w9 dq9) osq9) G B N Ob ap az cp cz acc x short L vv pre.length (singles (nth (Fw.runL P acc x short)) pre.length) K) := HF9.out.below hq9
              have hsz10 : Ob < (Sort.grow (redrawn w9 dq9) osq9).heap.size := Nat.lt_of_lt_of_le hsz9 hq9.size
              clear z0 z1 z2 z3 z4 z8 zt cM hq9 HF9 hsz9
              generalize Sort.grow (redrawn w9 dq9) osq9 = W10 at *
              go_wp2
              go_roundw
              case rel => exact ⟨q, q + 1, rfl, by go_num, by omega, by omega, by show _ = _; simpa [hLt] using HBU'.out, hsz10, HF10.out⟩
              case measure => simp [intOf]; omega
            · have hLt' : (L t == (k' : Int)) = false := by simpa using hLt
              go_wp2_with fail
              refine wp_region_quiet_below (by kernel_rfl) (by kernel_rfl) ?_
              repeat (go_big_quiet_step (first | (go_at_call 87; exact cM _ _) | (go_at_call 84; exact Calls.regrown_same (HAq.out _))))
              refine wpQuiet_nil ?_
              intro _ hw'
              obtain ⟨⟨dq9, osq9⟩, hw''⟩ := hw'
              subst hw''
              have hq9 := below_regrown w9 dq9 osq9
              have HF10 : Hid (FS P w (Sort.grow (redrawn w9 dq9) osq9) G B N Ob ap az cp cz acc x short L vv pre.length (singles (nth (Fw.runL P acc x short)) pre.length) K) := HF9.out.below hq9
              have hsz10 : Ob < (Sort.grow (redrawn w9 dq9) osq9).heap.size := Nat.lt_of_lt_of_le hsz9 hq9.size
              clear z0 z1 z2 z3 z4 z8 zt cM hq9 HF9 hsz9
              generalize Sort.grow (redrawn w9 dq9) osq9 = W10 at *
              go_wp2
              go_roundw
              case rel => exact ⟨best, q + 1, rfl, by go_num, by omega, by omega, by show _ = _; simpa [hLt] using HBU'.out, hsz10, HF10.out⟩
              case measure => simp [intOf]; omega
        · have eq : q = hi' + 1 := by omega
          have hqf : decide (q ≤ hi') = false := by simp; omega
          have HBF : Hid (best = F) := by
            have h := HBU.out
            rw [show (hi' + 1 - q).toNat = 0 by omega] at h
            exact h
          have hbF := HBF.out
          subst hbF
          clear HBU HBF eq
          obtain ⟨av, cv, hvv, hcv, hcv2, hav⟩ := owned_shape HF9.out.2.2.1
          subst hvv
          have k2 := HF9.out.2.1.cell (i := 2) (by omega)
          simp only [r3] at k2
          have HN : Hid (Ob + 1 ≤ (w9.alloc (.cells #[.int .i64 best] 3)).heap.size) := by show _ ≤ _; simp; omega
          go_wp2_with (first | (at_builtin; refine wpList_append_own _ rfl _ _ 27 rfl (Ob + 1) 3 i0 (.int .i64 0) 1 8 Try.underlying27 hi hz0 hz1 hz2 rfl (by decide) _ _ _ rfl (HF9.out.2.2.1.alloc _) ⟨w9.heap.size, 0, none⟩ 1 1 [.int .i64 best] rfl rfl (alloc_add1 w9 _ _ _ rfl) ?c2 ?c3 ?c4 HN.out ?_))
          case c2 => intro u hu; simp at hu; subst hu; rfl
          case c3 => unfold maxLen; omega
          case c4 => omega
          intro v11 w11 hown hgrow _
          obtain ⟨av9, cv9, rfl, _, _, _⟩ := owned_shape hown
          obtain ⟨p2, HF11⟩ := HF9.out.push hO1 hO2 hO3 _ hgrow hown
          have k2' := p2.cell (i := 2) (by omega)
          have kf := p2.frozen
          simp only [r3] at k2'
          have hsz11 : Ob < w11.heap.size := p2.lt
          have HF12 : Hid (FS P w (w11.setCell ⟨Ob, 2, none⟩ (.slice av9 (pre.length + 1) cv9)) G B N Ob ap az cp cz acc x short L (.slice av9 (pre.length + 1) cv9) (pre ++ [best]).length (singles (nth (Fw.runL P acc x short)) (pre ++ [best]).length) K) := by
            show FS _ _ _ _ _ _ _ _ _ _ _ _ _ _ _ _ _ _ _
            rw [List.length_append, List.length_singleton, singles]
            have en : nth (Fw.runL P acc x short) pre.length = best := by rw [← HPL'.out]; exact nth_app pre best _
            rw [en]
            exact HF11
          have HPL2 : Hid ((pre ++ [best]) ++ P.fastL acc x L k' (d + best) best = Fw.runL P acc x short) := by show _ = _; rw [← HPL'.out]; simp
          clear HF11 p2 hown hgrow HF9 HPL' hav
          have HLN' : Hid (L (stn (d + best) best) = (k' : Nat)) := HLN.out
          clear HLN
          go_wp2
          go_roundw
          case rel => exact ⟨k', d + best, best, pre ++ [best], _, by omega, rfl, rfl, by go_num, ⟨by omega, by omega⟩, ⟨F0, F1⟩, HLN'.out, by simp; omega, HPL2.out, by simpa using hsz11, HF12.out⟩
          case measure => simp [intOf]
    · have e : k = 0 := by omega
      subst e
      have epre : pre.length = K := by omega
      obtain ⟨av, cv, rfl, _, _, _⟩ := owned_shape HF.out.2.2.1
      have hlt0 : decide ((0 : Int) < 0) = false := by simp
      have HFb := HF.out
      rw [epre] at HFb
      have HF2 : Hid (FS P w wr G B N Ob ap az cp cz acc x short L (.slice av K cv) K (singles (nth (Fw.runL P acc x short)) K) K) := HFb
      clear HFb HF HPL
      obtain ⟨o1, o2, o3, o4, o6, o7, o5⟩ := HF2.out
      have k0 : wr.cell? ⟨Ob, 0, none⟩ = some (.bool true) := o2.cell (i := 0) (by omega)
      have k1 : wr.cell? ⟨Ob, 1, none⟩ = some (.int .i64 K) := o2.cell (i := 1) (by omega)
      have k2 : wr.cell? ⟨Ob, 2, none⟩ = some (.slice av K cv) := o2.cell (i := 2) (by omega)
      have kf := o2.frozen
      have r0 : wr.cell? ⟨w.heap.size + 1, 0, none⟩ = some (.bool false) := o1.cell (i := 0) (by omega)
      have r1 : wr.cell? ⟨w.heap.size + 1, 1, none⟩ = some (.int .i64 0) := o1.cell (i := 1) (by omega)
      have r2 : wr.cell? ⟨w.heap.size + 1, 2, none⟩ = some (.slice none 0 0) := o1.cell (i := 2) (by omega)
      have rf := o1.frozen
      have hne : ¬ (Ob = w.heap.size + 1) := by omega
      have hne' : ¬ (w.heap.size + 1 = Ob) := by omega
      clear o1 o2 o3 o4 o5 o6 o7
      go_wp2
      refine bodyPost_ret (v := .agg #[.bool true, .int .i64 K, .slice av K cv]) (by simp [results, Try.results35, go_sem, *]) rfl ⟨.slice av K cv, by rw [HKT.out], ?_, ?_⟩
      · rw [HKT.out]
        obtain ⟨o1, o2, o3, o4, o6, o7, o5⟩ := HF2.out
        have q2 := owned_grown o3 (watch_set _ (w.heap.size + 1) 0 (.bool true)) (fun j e he => by have h1 := ownsRow_block o3 j he; have h2 := Option.some.inj e; omega)
        have q3 := owned_grown q2 (watch_set _ (w.heap.size + 1) 1 (.int .i64 K)) (fun j e he => by have h1 := ownsRow_block q2 j he; have h2 := Option.some.inj e; omega)
        have q4 := owned_grown q3 (watch_set _ (w.heap.size + 1) 2 (.slice av K cv)) (fun j e he => by have h1 := ownsRow_block q3 j he; have h2 := Option.some.inj e; omega)
        exact watch_base q4 (by omega)
      · iterate 3 refine Below.setCell ?_ (by simp) _
        exact HF2.out.2.2.2.2.2.2

set_option maxRecDepth 20000 in
set_option maxHeartbeats 8000000 in
theorem specFastest_none {Fw : Few} (P : Prof) (v : Value) (acc x short : Int) (w : World) (hl : P.Lies w v) (hg : P.runGood acc x short = true) (h : ¬ Fw.hasRun P acc x short) :
    Calls Try.prog 35 #[v, .int .i64 acc, .int .i64 x, .int .i64 short] w fun e w' => e = .returned (.agg #[.bool false, .int .i64 0, .slice none 0 0]) ∧ Below w.heap.size w w' := by
  have HV : Hid (P.Lies w v) := hl
  have HGD : Hid (P.runGood acc x short = true) := hg
  have HNH : Hid (¬ Fw.hasRun P acc x short) := h
  obtain ⟨hok, ⟨a0, a1⟩, ⟨g0, g1⟩, g2, ⟨s0, s1⟩⟩ := Prof.runGood_iff.1 hg
  obtain ⟨f0, f1⟩ := hok.fin
  obtain ⟨ap, cp, az, cz, rfl, hnp, hnz, hr2, hr3⟩ := hl
  clear hr2 hr3 hg hok h
  go_enter Try.func35, Try.ntmps35
  go_wp2_with fail
  generalize hW : (w.alloc _).alloc _ = W
  have bW : Below w.heap.size w W := by rw [← hW]; exact ((Below.refl _ _).alloc (Nat.le_refl _) _).alloc (by simp) _
  have sW : W.heap.size = w.heap.size + 2 := by rw [← hW]; simp
  have hbox : P.BoxAt W w.heap.size ap az cp cz := by subst hW; exact ⟨by go_simp, by go_simp, by go_simp, by go_simp, by go_simp⟩
  have rR : W.rowIs (w.heap.size + 1) 48 3 (r3 false 0 (.slice none 0 0)) := by
    have := World.rowIs_alloc (w.alloc (.cells #[.slice ap P.np cp, .slice az P.nz cz, .int .i64 P.train, .int .i64 P.fin, .int .i64 P.delay] 26)) #[.bool false, .int .i64 0, .slice none 0 0] 48 (r3 false 0 (.slice none 0 0)) (fun i hi => by simp at hi; match i, hi with | 0, _ => rfl | 1, _ => rfl | 2, _ => rfl)
    rw [World.size_alloc] at this
    rw [← hW]; exact this
  clear hW
  refine (l4good_any P _ acc x short _ (HV.out.below bW)).mono ?_
  rintro e w1 ⟨rfl, hb1⟩
  rw [HGD.out]
  have b1 := bW.trans (hb1.mono bW.size)
  have s1' := hb1.size
  have H1 : Hid (w1.rowIs (w.heap.size + 1) 48 3 (r3 false 0 (.slice none 0 0)) ∧ P.BoxAt w1 w.heap.size ap az cp cz) := ⟨rowIs_below rR hb1, hbox.below hb1⟩
  obtain ⟨x0, x1, x2, x3, x4⟩ := H1.out.2
  clear hb1 bW hbox rR
  obtain ⟨G, hG⟩ : ∃ G, w1.heap.size = G := ⟨_, rfl⟩
  obtain ⟨W3, hW3⟩ : ∃ W3, w1.alloc (.cells #[.slice ap P.np cp, .slice az P.nz cz, .int .i64 P.train, .int .i64 P.fin, .int .i64 P.delay, .int .i64 acc, .int .i64 x, .int .i64 short, .slice none 0 0] 115) = W3 := ⟨_, rfl⟩
  have bq3 : Below w1.heap.size w1 W3 := by rw [← hW3]; exact (Below.refl _ _).alloc (Nat.le_refl _) _
  have b3 := b1.trans (bq3.mono b1.size)
  have s3 : W3.heap.size = G + 1 := by rw [← hW3, ← hG]; simp
  have HG3 : Hid (W3.rowIs G 115 9 (P.g9 ap az cp cz acc x short (.slice none 0 0))) := by
    show World.rowIs _ _ _ _ _
    rw [← hW3, ← hG]
    exact World.rowIs_alloc w1 #[.slice ap P.np cp, .slice az P.nz cz, .int .i64 P.train, .int .i64 P.fin, .int .i64 P.delay, .int .i64 acc, .int .i64 x, .int .i64 short, .slice none 0 0] 115 (P.g9 ap az cp cz acc x short (.slice none 0 0)) (fun i hi => by simp at hi; match i, hi with | 0, _ => rfl | 1, _ => rfl | 2, _ => rfl | 3, _ => rfl | 4, _ => rfl | 5, _ => rfl | 6, _ => rfl | 7, _ => rfl | 8, _ => rfl)
  go_wp2_with fail
  clear hW3 x0 x1 x2 x3 x4
  refine (fill_any P w1 W3 G ap az cp cz acc x short HG3.out (HV.out.below b1) bq3 (by omega) HGD.out).mono ?_
  rintro e w4 ⟨rfl, B, N, L, hGB, hN, hg4, ht4, hfw, hout, b4⟩
  have H4 : Hid (w4.rowIs (w.heap.size + 1) 48 3 (r3 false 0 (.slice none 0 0)) ∧ P.BoxAt w4 w.heap.size ap az cp cz) := ⟨rowIs_below H1.out.1 b4, H1.out.2.below b4⟩
  have HG4 : Hid (w4.rowIs G 115 9 (P.g9 ap az cp cz acc x short (.slice (some ⟨B, 0, none⟩) N N))) := hg4
  have HT4 : Hid (w4.rowIs B 3 N (fun i => .int .i64 (L i))) := ht4
  have HSM : Hid (SameTo 2000 L (Fw.few P acc x short)) := hfw.sameTo (Fw.is P acc x short) 2000
  have hk0 : ¬ (0 ≤ L (stn 0 0) ∧ L (stn 0 0) ≤ 2000) := fun c => HNH.out ⟨HGD.out, (Few.few_at HSM.out).1 c⟩
  have b4' : Below w.heap.size w w4 := b1.trans (b4.mono b1.size)
  have c8 : w4.cell? ⟨G, 8, none⟩ = some (.slice (some ⟨B, 0, none⟩) N N) := hg4.cell (i := 8) (by omega)
  have hN0 : stn 0 0 < N := by unfold stn; omega
  have c0 : w4.cell? ⟨B, stn 0 0, none⟩ = some (.int .i64 (L (stn 0 0))) := ht4.cell (i := stn 0 0) hN0
  have hN1 : ((stn 0 0 : Nat) : Int) < (N : Int) := by omega
  have HA0 : Hid (∀ Wd : World, Calls Try.prog 84 #[.pointer (some ⟨G, 0, none⟩), .int .i64 0, .int .i64 0] Wd fun e w' => e = .returned (.int .i64 (stn 0 0 : Nat)) ∧ w' = Wd) := fun Wd => at_any Wd _ 0 0 (by omega) (by omega) (by omega) (by omega)
  clear hg4 ht4 hfw b4 bq3 H1
  generalize L (stn 0 0) = ℓ at *
  generalize stn 0 0 = z00 at *
  have y8 := cell_regrown c8
  have y0 := cell_regrown c0
  go_wp2_with fail
  refine wp_region_quiet_below (by kernel_rfl) (by kernel_rfl) ?_
  repeat (go_big_quiet_step (first | (go_at_call 84; exact Calls.regrown_same (HA0.out _))))
  refine wpQuiet_nil ?_
  intro _ hw'
  obtain ⟨⟨dq, osq⟩, hw''⟩ := hw'
  subst hw''
  have hq := below_regrown w4 dq osq
  have H5 : Hid ((Sort.grow (redrawn w4 dq) osq).rowIs (w.heap.size + 1) 48 3 (r3 false 0 (.slice none 0 0))) := rowIs_below H4.out.1 hq
  have b5 := b4'.trans (hq.mono b4'.size)
  generalize Sort.grow (redrawn w4 dq) osq = W5 at *
  have r0 : W5.cell? ⟨w.heap.size + 1, 0, none⟩ = some (.bool false) := H5.out.cell (i := 0) (by omega)
  have r1 : W5.cell? ⟨w.heap.size + 1, 1, none⟩ = some (.int .i64 0) := H5.out.cell (i := 1) (by omega)
  have r2 : W5.cell? ⟨w.heap.size + 1, 2, none⟩ = some (.slice none 0 0) := H5.out.cell (i := 2) (by omega)
  have rf := H5.out.frozen
  have HEND : Hid (∀ v0 v1 v2, Below w.heap.size w (((W5.setCell ⟨w.heap.size + 1, 0, none⟩ v0).setCell ⟨w.heap.size + 1, 1, none⟩ v1).setCell ⟨w.heap.size + 1, 2, none⟩ v2)) := fun v0 v1 v2 => by
    iterate 3 refine Below.setCell ?_ (by simp) _
    exact b5
  clear y8 y0 c8 c0 hq HG4 HT4 H4 b4' HA0
  by_cases hl0 : ℓ < 0
  · go_wp2
    exact bodyPost_ret (v := .agg #[.bool false, .int .i64 0, .slice none 0 0]) (by simp [results, Try.results35, go_sem, *]) rfl ⟨rfl, HEND.out _ _ _⟩
  · have hl1 : decide (ℓ < 0) = false := by simpa using hl0
    have hl2 : 2000 < ℓ := by omega
    go_wp2
    exact bodyPost_ret (v := .agg #[.bool false, .int .i64 0, .slice none 0 0]) (by simp [results, Try.results35, go_sem, *]) rfl ⟨rfl, HEND.out _ _ _⟩

set_option maxRecDepth 20000 in
set_option maxHeartbeats 8000000 in
theorem specFastest_bad (P : Prof) (v : Value) (acc x short : Int) (w : World) (hl : P.Lies w v) (hg : P.runGood acc x short = false) :
    Calls Try.prog 35 #[v, .int .i64 acc, .int .i64 x, .int .i64 short] w fun e w' => e = .returned (.agg #[.bool false, .int .i64 0, .slice none 0 0]) ∧ Below w.heap.size w w' := by
  have HV : Hid (P.Lies w v) := hl
  have HGD : Hid (P.runGood acc x short = false) := hg
  obtain ⟨ap, cp, az, cz, rfl, hnp, hnz, hr2, hr3⟩ := hl
  clear hr2 hr3 hg
  go_enter Try.func35, Try.ntmps35
  go_wp2_with fail
  generalize hW : (w.alloc _).alloc _ = W
  have bW : Below w.heap.size w W := by rw [← hW]; exact ((Below.refl _ _).alloc (Nat.le_refl _) _).alloc (by simp) _
  have sW : W.heap.size = w.heap.size + 2 := by rw [← hW]; simp
  have hbox : P.BoxAt W w.heap.size ap az cp cz := by subst hW; exact ⟨by go_simp, by go_simp, by go_simp, by go_simp, by go_simp⟩
  have rR : W.rowIs (w.heap.size + 1) 48 3 (r3 false 0 (.slice none 0 0)) := by
    have := World.rowIs_alloc (w.alloc (.cells #[.slice ap P.np cp, .slice az P.nz cz, .int .i64 P.train, .int .i64 P.fin, .int .i64 P.delay] 26)) #[.bool false, .int .i64 0, .slice none 0 0] 48 (r3 false 0 (.slice none 0 0)) (fun i hi => by simp at hi; match i, hi with | 0, _ => rfl | 1, _ => rfl | 2, _ => rfl)
    rw [World.size_alloc] at this
    rw [← hW]; exact this
  clear hW
  refine (l4good_any P _ acc x short _ (HV.out.below bW)).mono ?_
  rintro e w1 ⟨rfl, hb1⟩
  rw [HGD.out]
  have b1 := bW.trans (hb1.mono bW.size)
  have H1 : Hid (w1.rowIs (w.heap.size + 1) 48 3 (r3 false 0 (.slice none 0 0))) := rowIs_below rR hb1
  clear hb1 bW hbox rR
  have r0 : w1.cell? ⟨w.heap.size + 1, 0, none⟩ = some (.bool false) := H1.out.cell (i := 0) (by omega)
  have r1 : w1.cell? ⟨w.heap.size + 1, 1, none⟩ = some (.int .i64 0) := H1.out.cell (i := 1) (by omega)
  have r2 : w1.cell? ⟨w.heap.size + 1, 2, none⟩ = some (.slice none 0 0) := H1.out.cell (i := 2) (by omega)
  have rf := H1.out.frozen
  have HEND : Hid (∀ v0 v1 v2, Below w.heap.size w (((w1.setCell ⟨w.heap.size + 1, 0, none⟩ v0).setCell ⟨w.heap.size + 1, 1, none⟩ v1).setCell ⟨w.heap.size + 1, 2, none⟩ v2)) := fun v0 v1 v2 => by
    iterate 3 refine Below.setCell ?_ (by simp) _
    exact b1
  go_wp2
  exact bodyPost_ret (v := .agg #[.bool false, .int .i64 0, .slice none 0 0]) (by simp [results, Try.results35, go_sem, *]) rfl ⟨rfl, HEND.out _ _ _⟩

/-- What Fastest answers: whether there is one; how many ticks. -/
def Few.runO (Fw : Few) (P : Prof) (acc x short : Int) : Bool := P.runGood acc x short && decide (0 ≤ Fw.few P acc x short (stn 0 0) ∧ Fw.few P acc x short (stn 0 0) ≤ 2000)
def Few.runN (Fw : Few) (P : Prof) (acc x short : Int) : Nat := if Fw.runO P acc x short = true then Fw.runT P acc x short else 0
theorem Few.runO_iff {Fw : Few} {P : Prof} {acc x short : Int} : Fw.runO P acc x short = true ↔ Fw.hasRun P acc x short := by unfold Few.runO Few.hasRun; rw [Bool.and_eq_true, decide_eq_true_eq]
theorem Few.runN_le (Fw : Few) (P : Prof) (acc x short : Int) : Fw.runN P acc x short ≤ 2000 := by
  unfold Few.runN
  split
  · next h => have := (Few.runO_iff.1 h).2; unfold Few.runT; omega
  · omega
/-- From the two cases to the answer. -/
theorem run_join {Fw : Few} {f : FuncId} {base : Nat} {P : Prof} {acc x short : Int} {args : Array Value} {w : World}
    (hy : Fw.hasRun P acc x short → Calls Try.prog f args w fun e w' => ∃ v', e = .returned (.agg #[.bool true, .int .i64 (Fw.runT P acc x short), v']) ∧ w'.ownsRow base 3 1 v' (Fw.runT P acc x short) (singles (nth (Fw.runL P acc x short)) (Fw.runT P acc x short)) ∧ Below w.heap.size w w')
    (hn : ¬ Fw.hasRun P acc x short → Calls Try.prog f args w fun e w' => e = .returned (.agg #[.bool false, .int .i64 0, .slice none 0 0]) ∧ Below w.heap.size w w') :
    Calls Try.prog f args w fun e w' => ∃ a c, e = .returned (.agg #[.bool (Fw.runO P acc x short), .int .i64 (Fw.runN P acc x short), .slice a (Fw.runN P acc x short) c]) ∧ w'.ownsRow base 3 1 (.slice a (Fw.runN P acc x short) c) (Fw.runN P acc x short) (singles (nth (Fw.runL P acc x short)) (Fw.runN P acc x short)) ∧ Below w.heap.size w w' := by
  by_cases h : Fw.hasRun P acc x short
  · have ho := Few.runO_iff.2 h
    have hN : Fw.runN P acc x short = Fw.runT P acc x short := if_pos ho
    rw [ho, hN]
    refine (hy h).mono ?_
    rintro e w' ⟨v', rfl, h1, h2⟩
    obtain ⟨a, c, rfl, _, _, _⟩ := owned_shape h1
    exact ⟨a, c, rfl, h1, h2⟩
  · have ho : Fw.runO P acc x short = false := by cases c : Fw.runO P acc x short with | false => rfl | true => exact absurd (Few.runO_iff.1 c) h
    have hN : Fw.runN P acc x short = 0 := if_neg (by rw [ho]; simp)
    rw [ho, hN]
    refine (hn h).mono ?_
    rintro e w' ⟨rfl, h2⟩
    exact ⟨none, 0, rfl, World.ownsRow_nil _ _ _ _, h2⟩

theorem specFastest_any {Fw : Few} (P : Prof) (v : Value) (acc x short : Int) (w : World) (hl : P.Lies w v) :
    Calls Try.prog 35 #[v, .int .i64 acc, .int .i64 x, .int .i64 short] w fun e w' => ∃ a c, e = .returned (.agg #[.bool (Fw.runO P acc x short), .int .i64 (Fw.runN P acc x short), .slice a (Fw.runN P acc x short) c]) ∧ w'.ownsRow (w.heap.size + 1) 3 1 (.slice a (Fw.runN P acc x short) c) (Fw.runN P acc x short) (singles (nth (Fw.runL P acc x short)) (Fw.runN P acc x short)) ∧ Below w.heap.size w w' := by
  refine run_join (specFastest_yes P v acc x short w hl) (fun h => ?_)
  cases hg : P.runGood acc x short with
  | false => exact specFastest_bad P v acc x short w hl hg
  | true => exact specFastest_none P v acc x short w hl hg h

end Go.Proofs.Yteodefmpkljedaa
