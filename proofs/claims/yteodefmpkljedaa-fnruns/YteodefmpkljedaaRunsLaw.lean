/-
  The law on the fastest run and a drawn driver, walked.
-/
import Derived.Test.YteodefmpkljedaaEven
import Derived.Test.YteodefmpkljedaaImplFast
import Derived.Test.YteodefmpkljedaaSpecRun
import Derived.Test.YteodefmpkljedaaBytes2
import Derived.Test.YteodefmpkljedaaLawSafe
import Derived.Test.YteodefmpkljedaaTopLaw
import Derived.Test.YteodefmpkljedaaSpecAt
import Derived.Deep.CutBlock
namespace Go.Proofs.Yteodefmpkljedaa
open Go.RowKit Go.Sort Go.Shelf
attribute [local go_sem ↓] Go.wp_at_zero Go.wp_at_succ
set_option linter.unusedVariables false
set_option linter.unusedSimpArgs false

set_option maxHeartbeats 2000000 in
theorem wLater_not (a a' : Option Addr) (n c c' : Nat) (z z' : Nat → Int) (w : World) (hr : Row1 w a n z) (hr' : Row1 w a' n z') (hn : n ≤ 1000000) (hl : ¬ later (ofZ z 0 n) (ofZ z' 0 n)) :
    Calls Try.prog 37 #[.slice a n c, .slice a' n c'] w fun e w' => e = .returned (.bool false) ∧ Below w.heap.size w w' := by
  have HR : Hid (Row1 w a n z) := hr
  have HR' : Hid (Row1 w a' n z') := hr'
  have HL : Hid (¬ later (ofZ z 0 n) (ofZ z' 0 n)) := hl
  clear hr hr' hl
  go_enter Try.func37, Try.ntmps37
  go_wp2_with fail
  go_loopw [8] (fun i wr => ∃ k m : Nat, k + m = n ∧ i = .int .i64 k ∧ Hid (¬ later (ofZ z k m) (ofZ z' k m)) ∧ Below w.heap.size w wr) (fun i _ => n - (intOf i).toNat)
  case atStart => exact ⟨0, n, by omega, rfl, HL.out, Below.refl _ _⟩
  case round =>
    clear HL
    obtain ⟨k, m, hk, rfl, HL, hbel⟩ := hrel
    by_cases hlt : k < n
    · obtain ⟨m', rfl⟩ : ∃ m', m = m' + 1 := ⟨m - 1, by omega⟩
      have hkI : (k : Int) < (n : Int) := by omega
      rcases HR.out with h0 | ⟨b, off, rfl, hb, hc⟩
      · omega
      rcases HR'.out with h0 | ⟨b', off', rfl, hb', hc'⟩
      · omega
      have c0 : wr.cell? ⟨b, off + k, none⟩ = some (.int .i64 (z k)) := by rw [hbel.cell hb]; exact hc k hlt
      have c1 : wr.cell? ⟨b', off' + k, none⟩ = some (.int .i64 (z' k)) := by rw [hbel.cell hb']; exact hc' k hlt
      have HL2 : Hid (¬ (z' k < z k ∨ (z k = z' k ∧ later (ofZ z (k + 1) m') (ofZ z' (k + 1) m')))) := HL.out
      clear hc hc' HL
      by_cases he : z k = z' k
      · have hne : (z k != z' k) = false := by simpa using he
        have HL3 : Hid (¬ later (ofZ z (k + 1) m') (ofZ z' (k + 1) m')) := fun h => HL2.out (Or.inr ⟨he, h⟩)
        go_wp2_with fail
        go_quiet (fail)
        go_wp2
        go_roundw
        case rel => exact ⟨k + 1, m', by omega, by go_num, HL3.out, below_drewN hbel _⟩
        case measure => simp [intOf]; omega
      · have hne : (z k != z' k) = true := by simpa using he
        have hgt : ¬ z' k < z k := fun h => HL2.out (Or.inl h)
        have hgt' : decide (z' k < z k) = false := by simpa using hgt
        go_wp2_with fail
        go_quiet (fail)
        have c0' : (wr.drewN nq).cell? ⟨b, off + k, none⟩ = some (.int .i64 (z k)) := c0
        have c1' : (wr.drewN nq).cell? ⟨b', off' + k, none⟩ = some (.int .i64 (z' k)) := c1
        have hbel' := below_drewN hbel nq
        generalize wr.drewN nq = w3 at *
        go_wp2_with fail
        go_quiet (fail)
        go_wp2
        go_ret
        exact ⟨rfl, below_drewN hbel' _⟩
    · have hlt' : decide ((k : Int) < (n : Int)) = false := by simp; omega
      go_wp2
      go_ret
      exact ⟨rfl, hbel⟩

/-- What spec.Runs draws. -/
def Prof.RunDrawn (P : Prof) (acc x short : Int) : Prop := P.Ok ∧ (1 ≤ acc ∧ acc ≤ 9) ∧ (0 ≤ x ∧ x ≤ P.fin) ∧ (0 ≤ short ∧ short ≤ 8)

set_option maxRecDepth 20000 in
set_option maxHeartbeats 8000000 in
theorem fnRuns_of (a0 a1 : Option Addr) (len0 cap0 len1 cap1 : Nat) (w : World) (w0 : RowOk w a0 len0) (w1 : RowOk w a1 len1)
    (HD : len0 ≤ 1048576 → Calls Try.prog 33 #[.slice a0 len0 cap0] w fun e w' => ∃ (P : Prof) (ap : Option Addr) (cp : Nat) (az : Option Addr) (cz : Nat) (acc x short : Int), e = .returned (.tuple #[.agg #[.slice ap P.np cp, .slice az P.nz cz, .int .i64 P.train, .int .i64 P.fin, .int .i64 P.delay], .int .i64 acc, .int .i64 x, .int .i64 short]) ∧ P.Lies w' (.agg #[.slice ap P.np cp, .slice az P.nz cz, .int .i64 P.train, .int .i64 P.fin, .int .i64 P.delay]) ∧ P.RunDrawn acc x short ∧ Below w.heap.size w w') :
    Calls Try.prog 8 #[.slice a0 len0 cap0, .slice a1 len1 cap1] w fun e w' => e = .returned (.bool true) ∧ Below w.heap.size w w' := by
  have hrow : Hid (RowOk w a0 len0) := w0
  have hrow1 : Hid (RowOk w a1 len1) := w1
  clear w0 w1
  have hmax : len0 ≤ 9223372036854775807 := by have := hrow.out.1; unfold maxLen at this; omega
  have hmax1 : len1 ≤ 9223372036854775807 := by have := hrow1.out.1; unfold maxLen at this; omega
  by_cases hbig : 1048576 < len0
  · go_enter Try.func8, Try.ntmps8
    go_wp2
    go_ret
    exact ⟨rfl, Below.refl _ _⟩
  by_cases hbig1 : 1048576 < len1
  · go_enter Try.func8, Try.ntmps8
    go_wp2
    go_ret
    exact ⟨rfl, Below.refl _ _⟩
  have hd0 : decide (1048576 < (len0 : Int)) = false := by simp; omega
  have hd1 : decide (1048576 < (len1 : Int)) = false := by simp; omega
  have HD' := HD (by omega)
  have HDH : Hid (Calls Try.prog 33 #[.slice a0 len0 cap0] w fun e w' => ∃ (P : Prof) (ap : Option Addr) (cp : Nat) (az : Option Addr) (cz : Nat) (acc x short : Int), e = .returned (.tuple #[.agg #[.slice ap P.np cp, .slice az P.nz cz, .int .i64 P.train, .int .i64 P.fin, .int .i64 P.delay], .int .i64 acc, .int .i64 x, .int .i64 short]) ∧ P.Lies w' (.agg #[.slice ap P.np cp, .slice az P.nz cz, .int .i64 P.train, .int .i64 P.fin, .int .i64 P.delay]) ∧ P.RunDrawn acc x short ∧ Below w.heap.size w w') := HD'
  clear HD HD'
  go_enter Try.func8, Try.ntmps8
  go_wp2_with fail
  refine HDH.out.mono ?_
  rintro e w2 ⟨P, ap, cp, az, cz, acc, x, short, rfl, hl2, hdr, hb2⟩
  obtain ⟨hok, ⟨a0', a1'⟩, ⟨g0, g1⟩, s0, s1⟩ := hdr
  have HOK : Hid P.Ok := hok
  obtain ⟨f0, f1⟩ := hok.fin
  have ht := (Prof.total_bounds hok.lens).2
  obtain ⟨i0, hi, hz0, hz1, hz2⟩ := info_parts Try.infoIntW
  obtain ⟨o, N, f, hN, HI, HS, HRI, HRR, HRN⟩ : ∃ (o : Bool) (N : Nat) (f : Nat → Int), N ≤ 2000 ∧
      Hid (∀ (v : Value) (w : World), P.Lies w v → Calls Try.prog 34 #[v, .int .i64 acc, .int .i64 x, .int .i64 short] w fun e w' => ∃ a c, e = .returned (.agg #[.bool o, .int .i64 N, .slice a N c]) ∧ w'.ownsRow w.heap.size 3 1 (.slice a N c) N (singles f N) ∧ Below w.heap.size w w') ∧
      Hid (∀ (v : Value) (w : World), P.Lies w v → Calls Try.prog 35 #[v, .int .i64 acc, .int .i64 x, .int .i64 short] w fun e w' => ∃ a c, e = .returned (.agg #[.bool o, .int .i64 N, .slice a N c]) ∧ w'.ownsRow (w.heap.size + 1) 3 1 (.slice a N c) N (singles f N) ∧ Below w.heap.size w w') ∧
      Hid (∀ (v : Value) (a : Option Addr) (n c : Nat) (z : Nat → Int) (w : World), P.Lies w v → Row1 w a n z → n ≤ 2000 → Calls Try.prog 36 #[v, .int .i64 acc, .int .i64 x, .int .i64 short, .slice a n c] w fun e w' => e = .returned (.bool (P.runAns acc x short n z)) ∧ Below w.heap.size w w') ∧
      Hid (o = true → P.runAns acc x short N f = true) ∧
      Hid (∀ (n : Nat) (z : Nat → Int), P.runAns acc x short n z = true → o = true ∧ N ≤ n ∧ (n = N → ¬ later (ofZ z 0 n) (ofZ f 0 n))) := by
    obtain ⟨Fw⟩ := few_all
    refine ⟨Fw.runO P acc x short, Fw.runN P acc x short, nth (Fw.runL P acc x short), Fw.runN_le P acc x short, fun v w hl => implFastest_any P v acc x short w hl, fun v w hl => specFastest_any P v acc x short w hl, fun v a n c z w hl hz hn => implRunOk_any P v acc x short a n c z w hl hz (by omega), fun h => (Few.runO_iff.1 h).ans, fun n z h => ?_⟩
    unfold Prof.runAns at h
    simp only [Bool.and_eq_true, decide_eq_true_eq] at h
    obtain ⟨h1, h2, h3⟩ := h
    rw [Prof.isRun_iff] at h3
    have hc := Prof.can_of hok.rates (by omega) _ 0 0 (by omega) (by omega) (by omega) (by omega) h3
    have hf := (Fw.is P acc x short).can hc
    rw [ofZ_length] at hf
    have hh : Fw.hasRun P acc x short := ⟨h1, hf.1, by omega⟩
    have hfast := Few.runL_fast hh
    have hle := hfast.few _ h3
    rw [Fw.runL_length P, ofZ_length] at hle
    refine ⟨Few.runO_iff.2 hh, by rw [hh.n]; exact hle, fun e => ?_⟩
    rw [hh.n] at e
    have hne := hfast.first _ h3 (by rw [Fw.runL_length P, ofZ_length]; exact e)
    have eq := ofZ_nth (Fw.runL P acc x short) []
    rw [List.nil_append, List.length_nil, Fw.runL_length P, ← e] at eq
    rw [eq]
    exact hne
  clear hok
  go_wp2_with fail
  obtain ⟨pb, hpb⟩ : ∃ pb, w2.heap.size = pb := ⟨_, rfl⟩
  obtain ⟨W2, hW2⟩ : ∃ W2, w2.alloc (.cells #[.slice ap P.np cp, .slice az P.nz cz, .int .i64 P.train, .int .i64 P.fin, .int .i64 P.delay] 26) = W2 := ⟨_, rfl⟩
  have bq2 : Below w2.heap.size w2 W2 := by rw [← hW2]; exact (Below.refl _ _).alloc (Nat.le_refl _) _
  have HX2 : Hid (P.BoxAt W2 pb ap az cp cz) := by show Prof.BoxAt _ _ _ _ _ _ _; subst hW2 hpb; exact ⟨by go_simp, by go_simp, by go_simp, by go_simp, by go_simp⟩
  have HL2 : Hid (P.Lies W2 (.agg #[.slice ap P.np cp, .slice az P.nz cz, .int .i64 P.train, .int .i64 P.fin, .int .i64 P.delay])) := hl2.below bq2
  have B2 := hb2.trans (bq2.mono hb2.size)
  rw [hW2, hpb]
  clear bq2 hl2 hb2 HDH hW2 hpb
  refine (HI.out _ _ HL2.out).mono ?_
  rintro e w3 ⟨ra, rc, rfl, hown3, hb3⟩
  obtain ⟨rb, hrb⟩ : ∃ rb, w3.heap.size = rb := ⟨_, rfl⟩
  obtain ⟨W3, hW3⟩ : ∃ W3, w3.alloc (.cells #[.bool o, .int .i64 N, .slice ra N rc] 48) = W3 := ⟨_, rfl⟩
  have bq3 : Below w3.heap.size w3 W3 := by rw [← hW3]; exact (Below.refl _ _).alloc (Nat.le_refl _) _
  have HRB3 : Hid (W3.rowIs rb 48 3 (r3 o N (.slice ra N rc))) := by
    show World.rowIs _ _ _ _ _
    rw [← hW3, ← hrb]
    exact World.rowIs_alloc w3 #[.bool o, .int .i64 N, .slice ra N rc] 48 (r3 o N (.slice ra N rc)) (fun i hi => by simp at hi; match i, hi with | 0, _ => rfl | 1, _ => rfl | 2, _ => rfl)
  have e3 := hb3.trans (bq3.mono hb3.size)
  have HF3 : Hid (Row1 W3 ra N f) := (owned_row1 hown3).below bq3
  have HX3 : Hid (P.BoxAt W3 pb ap az cp cz) := HX2.out.below e3
  have HL3 : Hid (P.Lies W3 (.agg #[.slice ap P.np cp, .slice az P.nz cz, .int .i64 P.train, .int .i64 P.fin, .int .i64 P.delay])) := HL2.out.below e3
  have B3 := B2.trans (e3.mono B2.size)
  clear hown3 hb3 bq3 e3 HX2 HL2 B2
  obtain ⟨x0, x1, x2, x3, x4⟩ := HX3.out
  go_wp2_with fail
  clear x0 x1 x2 x3 x4 hW3 hrb
  refine (HS.out _ _ HL3.out).mono ?_
  rintro e w4 ⟨sa, sc, rfl, hown4, hb4⟩
  obtain ⟨sb, hsb⟩ : ∃ sb, w4.heap.size = sb := ⟨_, rfl⟩
  obtain ⟨W4, hW4⟩ : ∃ W4, w4.alloc (.cells #[.bool o, .int .i64 N, .slice sa N sc] 48) = W4 := ⟨_, rfl⟩
  have bq4 : Below w4.heap.size w4 W4 := by rw [← hW4]; exact (Below.refl _ _).alloc (Nat.le_refl _) _
  have HSB4 : Hid (W4.rowIs sb 48 3 (r3 o N (.slice sa N sc))) := by
    show World.rowIs _ _ _ _ _
    rw [← hW4, ← hsb]
    exact World.rowIs_alloc w4 #[.bool o, .int .i64 N, .slice sa N sc] 48 (r3 o N (.slice sa N sc)) (fun i hi => by simp at hi; match i, hi with | 0, _ => rfl | 1, _ => rfl | 2, _ => rfl)
  have e4 := hb4.trans (bq4.mono hb4.size)
  have HG4 : Hid (Row1 W4 sa N f) := (owned_row1 hown4).below bq4
  have HRB4 : Hid (W4.rowIs rb 48 3 (r3 o N (.slice ra N rc))) := rowIs_below HRB3.out e4
  have HF4 : Hid (Row1 W4 ra N f) := HF3.out.below e4
  have HX4 : Hid (P.BoxAt W4 pb ap az cp cz) := HX3.out.below e4
  have HL4 : Hid (P.Lies W4 (.agg #[.slice ap P.np cp, .slice az P.nz cz, .int .i64 P.train, .int .i64 P.fin, .int .i64 P.delay])) := HL3.out.below e4
  have B4 := B3.trans (e4.mono B3.size)
  clear hown4 hb4 bq4 e4 HX3 HL3 B3 HRB3 HF3 HS HI
  have t0 : W4.cell? ⟨rb, 0, none⟩ = some (.bool o) := HRB4.out.cell (i := 0) (by omega)
  have t1 : W4.cell? ⟨rb, 1, none⟩ = some (.int .i64 N) := HRB4.out.cell (i := 1) (by omega)
  have t2 : W4.cell? ⟨rb, 2, none⟩ = some (.slice ra N rc) := HRB4.out.cell (i := 2) (by omega)
  have u0 : W4.cell? ⟨sb, 0, none⟩ = some (.bool o) := HSB4.out.cell (i := 0) (by omega)
  have u1 : W4.cell? ⟨sb, 1, none⟩ = some (.int .i64 N) := HSB4.out.cell (i := 1) (by omega)
  have u2 : W4.cell? ⟨sb, 2, none⟩ = some (.slice sa N sc) := HSB4.out.cell (i := 2) (by omega)
  have ho : (o != o) = false := by simp
  have hNN : ((N : Int) != (N : Int)) = false := by simp
  go_wp2_with fail
  clear t0 t1 t2 u0 u1 u2
  refine (wInts_same _ _ _ _ _ f _ HF4.out HG4.out (by omega)).mono ?_
  rintro e w5 ⟨rfl, hb5⟩
  have HRB5 : Hid (w5.rowIs rb 48 3 (r3 o N (.slice ra N rc))) := rowIs_below HRB4.out hb5
  have HF5 : Hid (Row1 w5 ra N f) := HF4.out.below hb5
  have HX5 : Hid (P.BoxAt w5 pb ap az cp cz) := HX4.out.below hb5
  have HL5 : Hid (P.Lies w5 (.agg #[.slice ap P.np cp, .slice az P.nz cz, .int .i64 P.train, .int .i64 P.fin, .int .i64 P.delay])) := HL4.out.below hb5
  have B5 := B4.trans (hb5.mono B4.size)
  clear HRB4 HF4 HX4 HL4 B4
  clear hb5 HG4 HSB4 hW4 hsb
  have t0 : w5.cell? ⟨rb, 0, none⟩ = some (.bool o) := HRB5.out.cell (i := 0) (by omega)
  have t1 : w5.cell? ⟨rb, 1, none⟩ = some (.int .i64 N) := HRB5.out.cell (i := 1) (by omega)
  have t2 : w5.cell? ⟨rb, 2, none⟩ = some (.slice ra N rc) := HRB5.out.cell (i := 2) (by omega)
  obtain ⟨x0, x1, x2, x3, x4⟩ := HX5.out
  cases o with
  | true =>
    have HRT := HRR.out rfl
    have HRT' : Hid (P.runAns acc x short N f = true) := HRT
    clear HRT HRR
    go_wp2_with fail
    refine (HRI.out _ _ _ _ f _ HL5.out HF5.out hN).mono ?_
    rw [HRT'.out]
    rintro e w6 ⟨rfl, hb6⟩
    clear x0 x1 x2 x3 x4 t0 t1 t2
    have HRB6 : Hid (w6.rowIs rb 48 3 (r3 true N (.slice ra N rc))) := rowIs_below HRB5.out hb6
    have HF6 : Hid (Row1 w6 ra N f) := HF5.out.below hb6
    have HX6 : Hid (P.BoxAt w6 pb ap az cp cz) := HX5.out.below hb6
    have HL6 : Hid (P.Lies w6 (.agg #[.slice ap P.np cp, .slice az P.nz cz, .int .i64 P.train, .int .i64 P.fin, .int .i64 P.delay])) := HL5.out.below hb6
    have B6 := B5.trans (hb6.mono B5.size)
    clear hb6 HRB5 HF5 HX5 HL5 B5
    obtain ⟨LB, hLB⟩ : ∃ LB, w6.heap.size = LB := ⟨_, rfl⟩
    go_wp2_with fail
    go_loopw [11, 12, 13, 14] (fun sv sa sl sk wr => ∃ (k : Nat) (v at_ : Int) (z : Nat → Int) (la : Option Addr) (lc : Nat), k ≤ 60 ∧ sv = .int .i64 v ∧ sa = .int .i64 at_ ∧ sk = .int .i64 k ∧ sl = .slice la k lc ∧ (0 ≤ v ∧ v ≤ 60) ∧ (0 ≤ at_ ∧ at_ ≤ P.fin) ∧ Hid (wr.ownsRow LB 3 1 (.slice la k lc) k (singles z k)) ∧ Hid (Below LB w6 wr)) (fun _ _ _ sk _ => 60 - (intOf sk).toNat)
    case atStart => exact ⟨0, 0, x, fun _ => 0, none, 0, by omega, rfl, rfl, rfl, rfl, ⟨by omega, by omega⟩, ⟨g0, g1⟩, World.ownsRow_nil _ _ _ _, Below.refl _ _⟩
    case round =>
      obtain ⟨k, v, at_, z, la, lc, hk, rfl, rfl, rfl, rfl, ⟨v0, v1⟩, ⟨t0, t1⟩, HO, HB⟩ := hrel
      by_cases hlt : k < 60
      · have hkI : (k : Int) < 60 := by omega
        have HBw : Below w6.heap.size w6 wr := by rw [hLB]; exact HB.out
        obtain ⟨x0, x1, x2, x3, x4⟩ := HX6.out.below HBw
        go_wp2_with fail
        refine (HRI.out _ la k lc z wr (HL6.out.below HBw) (owned_row1 HO.out) (by omega)).mono ?_
        rintro e w7 ⟨rfl, hb7⟩
        have HB7 : Below w6.heap.size w6 w7 := HBw.trans (hb7.mono HBw.size)
        have HO7 : Hid (w7.ownsRow LB 3 1 (.slice la k lc) k (singles z k)) := ownsRow_below HO.out hb7
        clear x0 x1 x2 x3 x4 hb7
        obtain ⟨ra', hra⟩ : ∃ b, P.runAns acc x short k z = b := ⟨_, rfl⟩
        rw [hra]
        have HRA : Hid (P.runAns acc x short k z = ra') := hra
        clear hra
        go_upto_if 92 with fail
        go_cut [] from 93 to 113 (fun wc => Hid (Below w7.heap.size w7 wc))
        case first =>
          cases ra' with
          | false =>
            go_wp2_with fail
            go_meet
            case rel => exact Below.refl _ _
          | true =>
            obtain ⟨_, hNk, hnl⟩ := HRN.out k z HRA.out
            have y0 : w7.cell? ⟨rb, 0, none⟩ = some (.bool true) := (rowIs_below HRB6.out HB7).cell (i := 0) (by omega)
            have y1 : w7.cell? ⟨rb, 1, none⟩ = some (.int .i64 N) := (rowIs_below HRB6.out HB7).cell (i := 1) (by omega)
            have y2 : w7.cell? ⟨rb, 2, none⟩ = some (.slice ra N rc) := (rowIs_below HRB6.out HB7).cell (i := 2) (by omega)
            have hnlt : decide ((k : Int) < (N : Int)) = false := by simp; omega
            by_cases hkN : k = N
            · have HNL : Hid (¬ later (ofZ z 0 k) (ofZ f 0 k)) := hnl hkN
              subst hkN
              have hke : ((k : Int) == (k : Int)) = true := by simp
              go_wp2_with fail
              refine (wLater_not _ _ _ _ _ z f w7 (owned_row1 HO7.out) (HF6.out.below HB7) (by omega) HNL.out).mono ?_
              rintro e w8 ⟨rfl, hb8⟩
              go_wp2_with fail
              go_meet
              case rel => exact hb8
            · have hke : ((k : Int) == (N : Int)) = false := by simp; omega
              go_wp2_with fail
              go_meet
              case rel => exact Below.refl _ _
        case rest =>
          clear HRA
          have HB8 : Below w6.heap.size w6 wc := HB7.trans (hcut.out.mono HB7.size)
          have HO8 : Hid (wc.ownsRow LB 3 1 (.slice la k lc) k (singles z k)) := ownsRow_below HO7.out hcut.out
          clear hcut HO7 HB7 HBw HO HB
          obtain ⟨x0, x1, x2, x3, x4⟩ := HX6.out.below HB8
          go_wp2_with fail
          refine (specBrakeAt_any P _ at_ wc (HL6.out.below HB8)).mono ?_
          rw [brakeAns_yes (show P.With at_ from ⟨HOK.out, t0, by omega⟩)]
          rintro e w9 ⟨rfl, hb9⟩
          have HB9 : Below w6.heap.size w6 w9 := HB8.trans (hb9.mono HB8.size)
          have HO9 : Hid (w9.ownsRow LB 3 1 (.slice la k lc) k (singles z k)) := ownsRow_below HO8.out hb9
          clear x0 x1 x2 x3 x4 hb9 HB8 HO8
          obtain ⟨rt0, rt1⟩ := HOK.out.rate at_
          generalize P.rate at_ = rt at *
          go_upto_if 120 with fail
          go_cut [15] from 119 to 120 (fun s15 wd => ∃ low : Int, s15 = .int .i64 low ∧ 0 ≤ low ∧ low ≤ v ∧ wd = w9)
          case first =>
            by_cases hneg : v - rt < 0
            · go_wp2_with fail
              go_meet
              case rel => exact ⟨0, rfl, by omega, v0, rfl⟩
            · have hneg' : decide (v - rt < 0) = false := by simpa using hneg
              go_wp2_with fail
              go_meet
              case rel => exact ⟨v - rt, rfl, by omega, by omega, rfl⟩
          case rest =>
            obtain ⟨low, rfl, l0, l1, rfl⟩ := hcut
            have Bw := B6.trans (HB9.mono B6.size)
            go_wp2_with fail
            refine (wByte_any a1 len1 cap1 k _ (hrow1.out.below Bw) (by omega) (by omega)).mono ?_
            rintro e wx ⟨y, rfl, y0, y1, hwx⟩
            subst hwx
            obtain ⟨dd, hdd⟩ : ∃ dd, v + acc - low + 1 = dd := ⟨_, rfl⟩
            obtain ⟨md, hmd⟩ : ∃ md, y.tmod dd = md := ⟨_, rfl⟩
            have hd1 : 2 ≤ dd := by omega
            have hm0 : 0 ≤ md ∧ md < dd := by
              rw [← hmd, Int.tmod_eq_emod_of_nonneg y0]
              exact ⟨Int.emod_nonneg _ (by omega), Int.emod_lt_of_pos _ (by omega)⟩
            have hde : (dd == 0) = false := by simp; omega
            have hde' : dd ≠ 0 := by omega
            have hmd' : y % dd = md := by rw [← hmd, Int.tmod_eq_emod_of_nonneg y0]
            go_upto_block 2 with fail
            go_cut [16] from 133 to 144 (fun s16 wd => ∃ q : Int, s16 = .int .i64 q ∧ low ≤ q ∧ q ≤ 69 ∧ Hid (Below w6.heap.size w6 wd) ∧ Hid (wd.ownsRow LB 3 1 (.slice la k lc) k (singles z k)))
            case first =>
              go_wp2_with fail
              go_loopw [16] (fun sq wr2 => ∃ q : Int, sq = .int .i64 q ∧ low ≤ q ∧ q ≤ 69 ∧ Hid (Below w6.heap.size w6 wr2) ∧ Hid (wr2.ownsRow LB 3 1 (.slice la k lc) k (singles z k))) (fun sq _ => (intOf sq - low).toNat)
              case atStart => exact ⟨low + md, rfl, by omega, by omega, HB9, HO9.out⟩
              case round =>
                clear HB9 HO9 Bw
                obtain ⟨q, rfl, ql, qh, HBq, HOq⟩ := hrel
                by_cases hgt : low < q
                · obtain ⟨x0, x1, x2, x3, x4⟩ := HX6.out.below HBq.out
                  go_wp2_with fail
                  refine (specSafe_any P _ at_ q _ (HL6.out.below HBq.out)).mono ?_
                  rintro e w11 ⟨rfl, hb11⟩
                  have HB11 : Hid (Below w6.heap.size w6 w11) := HBq.out.trans (hb11.mono HBq.out.size)
                  have HO11 : Hid (w11.ownsRow LB 3 1 (.slice la k lc) k (singles z k)) := ownsRow_below HOq.out hb11
                  clear x0 x1 x2 x3 x4 hb11
                  cases hsa : P.safeAns at_ q with
                  | true =>
                    clear hsa
                    go_wp2_with fail
                    go_meet
                    case rel => exact ⟨q, rfl, ql, qh, HB11.out, HO11.out⟩
                  | false =>
                    clear hsa
                    go_wp2
                    go_roundw
                    case rel => exact ⟨q - 1, rfl, by omega, by omega, HB11.out, HO11.out⟩
                    case measure => simp [intOf]; omega
                · have hgt' : decide (low < q) = false := by simpa using hgt
                  go_wp2_with fail
                  go_meet
                  case rel => exact ⟨q, rfl, ql, qh, HBq.out, HOq.out⟩
            case rest =>
              clear HB9 HO9 Bw
              obtain ⟨q, rfl, ql, qh, HBq, HOq⟩ := hcut
              obtain ⟨wz, hwz⟩ : ∃ wz, wc = wz := ⟨_, rfl⟩
              rw [hwz] at HBq HOq ⊢
              clear hwz
              go_upto_if 146 with fail
              go_cut [16] from 145 to 146 (fun s16 we => ∃ q' : Int, s16 = .int .i64 q' ∧ 0 ≤ q' ∧ q' ≤ 60 ∧ we = wz)
              case first =>
                by_cases h60 : 60 < q
                · go_wp2_with fail
                  go_meet
                  case rel => exact ⟨60, rfl, by omega, by omega, rfl⟩
                · have h60' : decide (60 < q) = false := by simpa using h60
                  go_wp2_with fail
                  go_meet
                  case rel => exact ⟨q, rfl, by omega, by omega, rfl⟩
              case rest =>
                obtain ⟨q', rfl, p0, p1, hwe⟩ := hcut
                rw [hwe]
                clear hwe
                obtain ⟨x0, x1, x2, x3, x4⟩ := HX6.out.below HBq.out
                go_wp2_with fail
                refine (specSafe_any P _ at_ q' _ (HL6.out.below HBq.out)).mono ?_
                rintro e w12 ⟨rfl, hb12⟩
                have HB12 : Below w6.heap.size w6 w12 := HBq.out.trans (hb12.mono HBq.out.size)
                have HO12 : Hid (w12.ownsRow LB 3 1 (.slice la k lc) k (singles z k)) := ownsRow_below HOq.out hb12
                clear x0 x1 x2 x3 x4 hb12 HBq HOq
                cases hsa : P.safeAns at_ q' with
                | false =>
                  clear hsa
                  go_wp2
                  go_ret
                  exact ⟨rfl, B6.trans (HB12.mono B6.size)⟩
                | true =>
                  have hend : at_ + q' ≤ P.fin := by
                    by_cases hq0 : q' = 0
                    · omega
                    · have h1 := HOK.out.safe_delay t0 t1 (show 0 < q' by omega) (by omega) hsa
                      have h2 : q' * 1 ≤ q' * (P.delay + 1) := Int.mul_le_mul_of_nonneg_left (by have := HOK.out.delay.1; omega) p0
                      omega
                  clear hsa
                  have HN : Hid (LB ≤ (w12.alloc (.cells #[.int .i64 q'] 3)).heap.size) := by show _ ≤ _; have := HB12.size; simp; omega
                  go_wp2_with (first | (at_builtin; refine wpList_append_own _ rfl _ _ 27 rfl LB 3 i0 (.int .i64 0) 1 8 Try.underlying27 hi hz0 hz1 hz2 rfl (by decide) _ _ _ rfl (HO12.out.alloc _) ⟨w12.heap.size, 0, none⟩ 1 1 [.int .i64 q'] rfl rfl (alloc_add1 w12 _ _ _ rfl) ?c2 ?c3 ?c4 HN.out ?_))
                  case c2 => intro u hu; simp at hu; subst hu; rfl
                  case c3 => unfold maxLen; omega
                  case c4 => omega
                  intro v13 w13 hown hgrow _
                  obtain ⟨la', lc', rfl, _, _, _⟩ := owned_shape hown
                  have hob := ownsRow_block HO12.out
                  have HB13 : Hid (Below LB w6 w13) := by
                    show Below _ _ _
                    rw [← hLB]
                    exact (HB12.alloc HB12.size _).grown hgrow (by rw [hLB]; exact HN.out) (fun j e => by have := hob _ e; omega)
                  have HO13 : Hid (w13.ownsRow LB 3 1 (.slice la' (k + 1) lc') (k + 1) (singles (upd z k q') (k + 1))) := by
                    show World.ownsRow _ _ _ _ _ _ _
                    rw [singles, upd_same, singles_same k (fun j hj => upd_other z q' (show j ≠ k by omega))]
                    exact hown
                  clear hown hgrow hob
                  go_wp2
                  go_roundw
                  case rel => exact ⟨k + 1, q', at_ + q', upd z k q', la', lc', by omega, rfl, rfl, by go_num, rfl, ⟨p0, p1⟩, ⟨by omega, hend⟩, HO13.out, HB13.out⟩
                  case measure => simp [intOf]; omega
      · have ek : k = 60 := by omega
        subst ek
        go_wp2
        go_ret
        exact ⟨rfl, B6.trans (HB.out.mono (by rw [← hLB]; exact B6.size))⟩
  | false =>
    clear HRR
    have hb6 : Below w5.heap.size w5 w5 := Below.refl _ _
    obtain ⟨w6, hw6⟩ : ∃ w6, w6 = w5 := ⟨_, rfl⟩
    rw [← hw6] at hb6
    rw [show Below w6.heap.size w6 w6 = Below w5.heap.size w5 w6 by rw [hw6]] at hb6
    have HRB6 : Hid (w6.rowIs rb 48 3 (r3 false N (.slice ra N rc))) := rowIs_below HRB5.out hb6
    have HF6 : Hid (Row1 w6 ra N f) := HF5.out.below hb6
    have HX6 : Hid (P.BoxAt w6 pb ap az cp cz) := HX5.out.below hb6
    have HL6 : Hid (P.Lies w6 (.agg #[.slice ap P.np cp, .slice az P.nz cz, .int .i64 P.train, .int .i64 P.fin, .int .i64 P.delay])) := HL5.out.below hb6
    have B6 := B5.trans (hb6.mono B5.size)
    clear hb6 HRB5 HF5 HX5 HL5 B5
    rw [← hw6] at t0 t1 t2 x0 x1 x2 x3 x4
    rw [← hw6]
    clear hw6
    go_wp2_with fail
    clear x0 x1 x2 x3 x4 t0 t1 t2
    obtain ⟨LB, hLB⟩ : ∃ LB, w6.heap.size = LB := ⟨_, rfl⟩
    go_wp2_with fail
    go_loopw [11, 12, 13, 14] (fun sv sa sl sk wr => ∃ (k : Nat) (v at_ : Int) (z : Nat → Int) (la : Option Addr) (lc : Nat), k ≤ 60 ∧ sv = .int .i64 v ∧ sa = .int .i64 at_ ∧ sk = .int .i64 k ∧ sl = .slice la k lc ∧ (0 ≤ v ∧ v ≤ 60) ∧ (0 ≤ at_ ∧ at_ ≤ P.fin) ∧ Hid (wr.ownsRow LB 3 1 (.slice la k lc) k (singles z k)) ∧ Hid (Below LB w6 wr)) (fun _ _ _ sk _ => 60 - (intOf sk).toNat)
    case atStart => exact ⟨0, 0, x, fun _ => 0, none, 0, by omega, rfl, rfl, rfl, rfl, ⟨by omega, by omega⟩, ⟨g0, g1⟩, World.ownsRow_nil _ _ _ _, Below.refl _ _⟩
    case round =>
      obtain ⟨k, v, at_, z, la, lc, hk, rfl, rfl, rfl, rfl, ⟨v0, v1⟩, ⟨t0, t1⟩, HO, HB⟩ := hrel
      by_cases hlt : k < 60
      · have hkI : (k : Int) < 60 := by omega
        have HBw : Below w6.heap.size w6 wr := by rw [hLB]; exact HB.out
        obtain ⟨x0, x1, x2, x3, x4⟩ := HX6.out.below HBw
        go_wp2_with fail
        refine (HRI.out _ la k lc z wr (HL6.out.below HBw) (owned_row1 HO.out) (by omega)).mono ?_
        rintro e w7 ⟨rfl, hb7⟩
        have HB7 : Below w6.heap.size w6 w7 := HBw.trans (hb7.mono HBw.size)
        have HO7 : Hid (w7.ownsRow LB 3 1 (.slice la k lc) k (singles z k)) := ownsRow_below HO.out hb7
        clear x0 x1 x2 x3 x4 hb7
        obtain ⟨ra', hra⟩ : ∃ b, P.runAns acc x short k z = b := ⟨_, rfl⟩
        rw [hra]
        have HRA : Hid (P.runAns acc x short k z = ra') := hra
        clear hra
        go_upto_if 92 with fail
        go_cut [] from 93 to 113 (fun wc => Hid (Below w7.heap.size w7 wc))
        case first =>
          cases ra' with
          | false =>
            go_wp2_with fail
            go_meet
            case rel => exact Below.refl _ _
          | true =>
            exact absurd (HRN.out k z HRA.out).1 (by simp)
        case rest =>
          clear HRA
          have HB8 : Below w6.heap.size w6 wc := HB7.trans (hcut.out.mono HB7.size)
          have HO8 : Hid (wc.ownsRow LB 3 1 (.slice la k lc) k (singles z k)) := ownsRow_below HO7.out hcut.out
          clear hcut HO7 HB7 HBw HO HB
          obtain ⟨x0, x1, x2, x3, x4⟩ := HX6.out.below HB8
          go_wp2_with fail
          refine (specBrakeAt_any P _ at_ wc (HL6.out.below HB8)).mono ?_
          rw [brakeAns_yes (show P.With at_ from ⟨HOK.out, t0, by omega⟩)]
          rintro e w9 ⟨rfl, hb9⟩
          have HB9 : Below w6.heap.size w6 w9 := HB8.trans (hb9.mono HB8.size)
          have HO9 : Hid (w9.ownsRow LB 3 1 (.slice la k lc) k (singles z k)) := ownsRow_below HO8.out hb9
          clear x0 x1 x2 x3 x4 hb9 HB8 HO8
          obtain ⟨rt0, rt1⟩ := HOK.out.rate at_
          generalize P.rate at_ = rt at *
          go_upto_if 120 with fail
          go_cut [15] from 119 to 120 (fun s15 wd => ∃ low : Int, s15 = .int .i64 low ∧ 0 ≤ low ∧ low ≤ v ∧ wd = w9)
          case first =>
            by_cases hneg : v - rt < 0
            · go_wp2_with fail
              go_meet
              case rel => exact ⟨0, rfl, by omega, v0, rfl⟩
            · have hneg' : decide (v - rt < 0) = false := by simpa using hneg
              go_wp2_with fail
              go_meet
              case rel => exact ⟨v - rt, rfl, by omega, by omega, rfl⟩
          case rest =>
            obtain ⟨low, rfl, l0, l1, rfl⟩ := hcut
            have Bw := B6.trans (HB9.mono B6.size)
            go_wp2_with fail
            refine (wByte_any a1 len1 cap1 k _ (hrow1.out.below Bw) (by omega) (by omega)).mono ?_
            rintro e wx ⟨y, rfl, y0, y1, hwx⟩
            subst hwx
            obtain ⟨dd, hdd⟩ : ∃ dd, v + acc - low + 1 = dd := ⟨_, rfl⟩
            obtain ⟨md, hmd⟩ : ∃ md, y.tmod dd = md := ⟨_, rfl⟩
            have hd1 : 2 ≤ dd := by omega
            have hm0 : 0 ≤ md ∧ md < dd := by
              rw [← hmd, Int.tmod_eq_emod_of_nonneg y0]
              exact ⟨Int.emod_nonneg _ (by omega), Int.emod_lt_of_pos _ (by omega)⟩
            have hde : (dd == 0) = false := by simp; omega
            have hde' : dd ≠ 0 := by omega
            have hmd' : y % dd = md := by rw [← hmd, Int.tmod_eq_emod_of_nonneg y0]
            go_upto_block 2 with fail
            go_cut [16] from 133 to 144 (fun s16 wd => ∃ q : Int, s16 = .int .i64 q ∧ low ≤ q ∧ q ≤ 69 ∧ Hid (Below w6.heap.size w6 wd) ∧ Hid (wd.ownsRow LB 3 1 (.slice la k lc) k (singles z k)))
            case first =>
              go_wp2_with fail
              go_loopw [16] (fun sq wr2 => ∃ q : Int, sq = .int .i64 q ∧ low ≤ q ∧ q ≤ 69 ∧ Hid (Below w6.heap.size w6 wr2) ∧ Hid (wr2.ownsRow LB 3 1 (.slice la k lc) k (singles z k))) (fun sq _ => (intOf sq - low).toNat)
              case atStart => exact ⟨low + md, rfl, by omega, by omega, HB9, HO9.out⟩
              case round =>
                clear HB9 HO9 Bw
                obtain ⟨q, rfl, ql, qh, HBq, HOq⟩ := hrel
                by_cases hgt : low < q
                · obtain ⟨x0, x1, x2, x3, x4⟩ := HX6.out.below HBq.out
                  go_wp2_with fail
                  refine (specSafe_any P _ at_ q _ (HL6.out.below HBq.out)).mono ?_
                  rintro e w11 ⟨rfl, hb11⟩
                  have HB11 : Hid (Below w6.heap.size w6 w11) := HBq.out.trans (hb11.mono HBq.out.size)
                  have HO11 : Hid (w11.ownsRow LB 3 1 (.slice la k lc) k (singles z k)) := ownsRow_below HOq.out hb11
                  clear x0 x1 x2 x3 x4 hb11
                  cases hsa : P.safeAns at_ q with
                  | true =>
                    clear hsa
                    go_wp2_with fail
                    go_meet
                    case rel => exact ⟨q, rfl, ql, qh, HB11.out, HO11.out⟩
                  | false =>
                    clear hsa
                    go_wp2
                    go_roundw
                    case rel => exact ⟨q - 1, rfl, by omega, by omega, HB11.out, HO11.out⟩
                    case measure => simp [intOf]; omega
                · have hgt' : decide (low < q) = false := by simpa using hgt
                  go_wp2_with fail
                  go_meet
                  case rel => exact ⟨q, rfl, ql, qh, HBq.out, HOq.out⟩
            case rest =>
              clear HB9 HO9 Bw
              obtain ⟨q, rfl, ql, qh, HBq, HOq⟩ := hcut
              obtain ⟨wz, hwz⟩ : ∃ wz, wc = wz := ⟨_, rfl⟩
              rw [hwz] at HBq HOq ⊢
              clear hwz
              go_upto_if 146 with fail
              go_cut [16] from 145 to 146 (fun s16 we => ∃ q' : Int, s16 = .int .i64 q' ∧ 0 ≤ q' ∧ q' ≤ 60 ∧ we = wz)
              case first =>
                by_cases h60 : 60 < q
                · go_wp2_with fail
                  go_meet
                  case rel => exact ⟨60, rfl, by omega, by omega, rfl⟩
                · have h60' : decide (60 < q) = false := by simpa using h60
                  go_wp2_with fail
                  go_meet
                  case rel => exact ⟨q, rfl, by omega, by omega, rfl⟩
              case rest =>
                obtain ⟨q', rfl, p0, p1, hwe⟩ := hcut
                rw [hwe]
                clear hwe
                obtain ⟨x0, x1, x2, x3, x4⟩ := HX6.out.below HBq.out
                go_wp2_with fail
                refine (specSafe_any P _ at_ q' _ (HL6.out.below HBq.out)).mono ?_
                rintro e w12 ⟨rfl, hb12⟩
                have HB12 : Below w6.heap.size w6 w12 := HBq.out.trans (hb12.mono HBq.out.size)
                have HO12 : Hid (w12.ownsRow LB 3 1 (.slice la k lc) k (singles z k)) := ownsRow_below HOq.out hb12
                clear x0 x1 x2 x3 x4 hb12 HBq HOq
                cases hsa : P.safeAns at_ q' with
                | false =>
                  clear hsa
                  go_wp2
                  go_ret
                  exact ⟨rfl, B6.trans (HB12.mono B6.size)⟩
                | true =>
                  have hend : at_ + q' ≤ P.fin := by
                    by_cases hq0 : q' = 0
                    · omega
                    · have h1 := HOK.out.safe_delay t0 t1 (show 0 < q' by omega) (by omega) hsa
                      have h2 : q' * 1 ≤ q' * (P.delay + 1) := Int.mul_le_mul_of_nonneg_left (by have := HOK.out.delay.1; omega) p0
                      omega
                  clear hsa
                  have HN : Hid (LB ≤ (w12.alloc (.cells #[.int .i64 q'] 3)).heap.size) := by show _ ≤ _; have := HB12.size; simp; omega
                  go_wp2_with (first | (at_builtin; refine wpList_append_own _ rfl _ _ 27 rfl LB 3 i0 (.int .i64 0) 1 8 Try.underlying27 hi hz0 hz1 hz2 rfl (by decide) _ _ _ rfl (HO12.out.alloc _) ⟨w12.heap.size, 0, none⟩ 1 1 [.int .i64 q'] rfl rfl (alloc_add1 w12 _ _ _ rfl) ?c2 ?c3 ?c4 HN.out ?_))
                  case c2 => intro u hu; simp at hu; subst hu; rfl
                  case c3 => unfold maxLen; omega
                  case c4 => omega
                  intro v13 w13 hown hgrow _
                  obtain ⟨la', lc', rfl, _, _, _⟩ := owned_shape hown
                  have hob := ownsRow_block HO12.out
                  have HB13 : Hid (Below LB w6 w13) := by
                    show Below _ _ _
                    rw [← hLB]
                    exact (HB12.alloc HB12.size _).grown hgrow (by rw [hLB]; exact HN.out) (fun j e => by have := hob _ e; omega)
                  have HO13 : Hid (w13.ownsRow LB 3 1 (.slice la' (k + 1) lc') (k + 1) (singles (upd z k q') (k + 1))) := by
                    show World.ownsRow _ _ _ _ _ _ _
                    rw [singles, upd_same, singles_same k (fun j hj => upd_other z q' (show j ≠ k by omega))]
                    exact hown
                  clear hown hgrow hob
                  go_wp2
                  go_roundw
                  case rel => exact ⟨k + 1, q', at_ + q', upd z k q', la', lc', by omega, rfl, rfl, by go_num, rfl, ⟨p0, p1⟩, ⟨by omega, hend⟩, HO13.out, HB13.out⟩
                  case measure => simp [intOf]; omega
      · have ek : k = 60 := by omega
        subst ek
        go_wp2
        go_ret
        exact ⟨rfl, B6.trans (HB.out.mono (by rw [← hLB]; exact B6.size))⟩

end Go.Proofs.Yteodefmpkljedaa
