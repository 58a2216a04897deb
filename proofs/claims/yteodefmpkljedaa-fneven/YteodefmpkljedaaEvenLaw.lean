/-
  The law on runs over one piece, walked.
-/
import Derived.Test.YteodefmpkljedaaEven
import Derived.Test.YteodefmpkljedaaImplFast
import Derived.Test.YteodefmpkljedaaSpecRun
import Derived.Test.YteodefmpkljedaaBytes2
import Derived.Test.YteodefmpkljedaaLawHelp
namespace Go.Proofs.Yteodefmpkljedaa
open Go.RowKit Go.Sort Go.Shelf
attribute [local go_sem ↓] Go.wp_at_zero Go.wp_at_succ
set_option linter.unusedVariables false

/-- A call of four arguments, taken by hand. -/
theorem wp_call4 {P : Program} {o : Oper} {a : Act} {w : World} {K : Act → World → Prop} {Q : Exit → Act → World → Prop}
    (f : Nat) (s x y z : Operand) (ts : Array TypeId) (hop : o.op = Op.call { callee := Callee.value (Operand.func f), args := #[s, x, y, z], argTypes := ts })
    (u1 u2 u3 u4 : Value) (hs : a.eval s = u1) (hx : a.eval x = u2) (hy : a.eval y = u3) (hz : a.eval z = u4) (eg : ∀ args w, (callFunc f args).run P w = .ok (.enter f args) w) {R : Ending → World → Prop} (hc : Calls P f #[u1, u2, u3, u4] w R)
    (hK : ∀ e w', R e w' → ∃ v, e = .returned v ∧ K (a.put o.dst v) w') : Oper.wp P o a w K Q := by
  have hrun : (execOp a.eval o).run P w = .ok (.enter f #[u1, u2, u3, u4]) w := by
    have hf : a.eval (Operand.func f) = .func (.func f) #[] #[] := rfl
    simp [execOp, hop, resolve, invoke, hs, hx, hy, hz, hf, eg, Deferred.ofValue]
  unfold Oper.wp
  rw [hrun]
  refine Calls.mono hc fun e w' h => ?_
  obtain ⟨v, rfl, hk⟩ := hK e w' h
  exact hk

set_option maxRecDepth 20000 in
set_option maxHeartbeats 4000000 in
theorem fnEven_any (a0 : Option Addr) (len0 cap0 : Nat) (w : World) (w0 : RowOk w a0 len0) :
    Calls Try.prog 9 #[.slice a0 len0 cap0] w fun e w' => e = .returned (.bool true) ∧ Below w.heap.size w w' := by
  have hrow : Hid (RowOk w a0 len0) := w0
  clear w0
  have hmax : len0 ≤ 9223372036854775807 := by have := hrow.out.1; unfold maxLen at this; omega
  by_cases hbig : 1048576 < len0
  · go_enter Try.func9, Try.ntmps9
    go_wp2
    go_ret
    exact ⟨rfl, Below.refl _ _⟩
  · obtain ⟨y0, p0, p1, hy0⟩ := wByte_one hrow.out 0 (by omega) (by omega) cap0
    obtain ⟨y1, q0, q1, hy1⟩ := wByte_one hrow.out 1 (by omega) (by omega) cap0
    obtain ⟨y2, r0, r1, hy2⟩ := wByte_one hrow.out 2 (by omega) (by omega) cap0
    have H0 : Hid (Calls Try.prog 20 #[.slice a0 len0 cap0, .int .i64 0] w fun e w' => e = .returned (.int .i64 y0) ∧ w' = w) := hy0 w (Below.refl _ _)
    have H1 : Hid (Calls Try.prog 20 #[.slice a0 len0 cap0, .int .i64 1] w fun e w' => e = .returned (.int .i64 y1) ∧ w' = w) := hy1 w (Below.refl _ _)
    have H2 : Hid (Calls Try.prog 20 #[.slice a0 len0 cap0, .int .i64 2] w fun e w' => e = .returned (.int .i64 y2) ∧ w' = w) := hy2 w (Below.refl _ _)
    obtain ⟨n, hn⟩ : ∃ n, 1 + y0 * 2 % 400 = n := ⟨_, rfl⟩
    obtain ⟨acc, hacc⟩ : ∃ acc, 1 + y1 % 9 = acc := ⟨_, rfl⟩
    obtain ⟨b, hb⟩ : ∃ b, 10 + y2 % 20 = b := ⟨_, rfl⟩
    have n0 : 1 ≤ n := by omega
    have n1 : n ≤ 400 := by omega
    have c0 : 1 ≤ acc := by omega
    have c1 : acc ≤ 9 := by omega
    have b0 : 10 ≤ b := by omega
    have b1 : b ≤ 29 := by omega
    obtain ⟨P, N, N2, f, f2, hPn, hPz, hP0, hP1, hP2, hP3, HPL, hN, hN2, hsum, HI1, HI2, HS, HR⟩ : ∃ (P : Prof) (N N2 : Nat) (f f2 : Nat → Int), P.np = 1 ∧ P.nz = 0 ∧ P.train = 0 ∧ P.fin = n ∧ P.delay = 0 ∧ P.np ≤ 60 ∧ Hid (P.L 0 = n ∧ P.B 0 = b) ∧ N ≤ 2000 ∧ N2 ≤ N ∧ Hid (sumTo f N = n ∧ ∀ k, k ≤ N → 0 ≤ sumTo f k ∧ sumTo f k ≤ n) ∧
        Hid (∀ (v : Value) (w : World), P.Lies w v → Calls Try.prog 34 #[v, .int .i64 acc, .int .i64 0, .int .i64 0] w fun e w' => ∃ a c, e = .returned (.agg #[.bool true, .int .i64 N, .slice a N c]) ∧ w'.ownsRow w.heap.size 3 1 (.slice a N c) N (singles f N) ∧ Below w.heap.size w w') ∧
        Hid (∀ (v : Value) (w : World), P.Lies w v → Calls Try.prog 34 #[v, .int .i64 (2 * acc), .int .i64 0, .int .i64 0] w fun e w' => ∃ a c, e = .returned (.agg #[.bool true, .int .i64 N2, .slice a N2 c]) ∧ w'.ownsRow w.heap.size 3 1 (.slice a N2 c) N2 (singles f2 N2) ∧ Below w.heap.size w w') ∧
        Hid (∀ (v : Value) (w : World), P.Lies w v → Calls Try.prog 35 #[v, .int .i64 acc, .int .i64 0, .int .i64 0] w fun e w' => ∃ a c, e = .returned (.agg #[.bool true, .int .i64 N, .slice a N c]) ∧ w'.ownsRow (w.heap.size + 1) 3 1 (.slice a N c) N (singles f N) ∧ Below w.heap.size w w') ∧
        Hid (∀ (v : Value) (a : Option Addr) (c : Nat) (w : World), P.Lies w v → Row1 w a N f → Calls Try.prog 39 #[v, .int .i64 acc, .int .i64 0, .int .i64 0, .slice a N c] w fun e w' => e = .returned (.bool true) ∧ Below w.heap.size w w') := by
      obtain ⟨Fw⟩ := few_all
      have h1 := even_has (Fw := Fw) n0 n1 b0 b1 c0 (show acc ≤ 20 by omega)
      have h2 := even_has (Fw := Fw) n0 n1 b0 b1 (show 1 ≤ 2 * acc by omega) (show 2 * acc ≤ 20 by omega)
      have o1 := Few.runO_iff.2 h1
      have o2 := Few.runO_iff.2 h2
      refine ⟨evenP n b, Fw.runN (evenP n b) acc 0 0, Fw.runN (evenP n b) (2 * acc) 0 0, nth (Fw.runL (evenP n b) acc 0 0), nth (Fw.runL (evenP n b) (2 * acc) 0 0), rfl, rfl, rfl, rfl, rfl, by show 1 ≤ 60; omega, ⟨rfl, rfl⟩, Fw.runN_le (evenP n b) acc 0 0, even_twice n0 n1 b0 b1 c0 c1, ⟨?_, ?_⟩, fun v w hl => ?_, fun v w hl => ?_, fun v w hl => ?_, fun v a c w hl hr => ?_⟩
      · rw [h1.sum]; show n - 0 = n; omega
      · intro k hk
        have hz := h1.isRun
        unfold Prof.isRun at hz
        rw [Bool.and_eq_true] at hz
        have hgo := (Prof.goesTo_all _).1 hz.1
        rw [h1.n] at hk
        have hk' : (evenP n b).goesTo acc 0 (nth (Fw.runL (evenP n b) acc 0 0)) k = true := (Prof.goesTo_all _).2 (fun i hi => hgo i (by omega))
        have := Prof.goesTo_in (evenP_ok n0 n1 b0 b1).rates (by omega) (show (0 : Int) ≤ (evenP n b).fin by show 0 ≤ n; omega) _ k hk'
        rw [rst_sum] at this
        exact ⟨this.1, by have h3 := this.2.1; change 0 + _ ≤ n at h3; omega⟩
      · have := implFastest_any (Fw := Fw) (evenP n b) v acc 0 0 w hl
        rw [o1] at this
        exact this
      · have := implFastest_any (Fw := Fw) (evenP n b) v (2 * acc) 0 0 w hl
        rw [o2] at this
        exact this
      · have := specFastest_any (Fw := Fw) (evenP n b) v acc 0 0 w hl
        rw [o1] at this
        exact this
      · have := specRunOk_any (evenP n b) v acc 0 0 a _ c _ w hl hr (by have := Fw.runN_le (evenP n b) acc 0 0; omega)
        rw [h1.ans] at this
        exact this
    clear hy0 hy1 hy2
    go_enter Try.func9, Try.ntmps9
    go_wp2_with (first
      | (go_at_call_of 20 (Value.int .i64 0); refine H0.out.mono ?_; rintro e w' ⟨rfl, rfl⟩)
      | (go_at_call_of 20 (Value.int .i64 1); refine H1.out.mono ?_; rintro e w' ⟨rfl, rfl⟩)
      | (go_at_call_of 20 (Value.int .i64 2); refine H2.out.mono ?_; rintro e w' ⟨rfl, rfl⟩))
    clear H0 H1 H2 hrow hmax hbig p0 p1 q0 q1 r0 r1 hn hacc hb
    obtain ⟨pb, hpb⟩ : ∃ pb, w'.heap.size = pb := ⟨_, rfl⟩
    obtain ⟨W, hW⟩ : ∃ W, (w'.alloc (.cells #[.int .i64 n, .int .i64 b] 53)).alloc (.cells #[.slice (some ⟨w'.heap.size, 0, none⟩) 1 1, .slice none 0 0, .int .i64 0, .int .i64 n, .int .i64 0] 26) = W := ⟨_, rfl⟩
    have bW : Below w'.heap.size w' W := by rw [← hW]; exact ((Below.refl _ _).alloc (Nat.le_refl _) _).alloc (by simp) _
    have HX : Hid (P.BoxAt W (pb + 1) (some ⟨pb, 0, none⟩) none 1 0) := by
      show Prof.BoxAt _ _ _ _ _ _ _
      unfold Prof.BoxAt
      rw [hPn, hPz, hP0, hP1, hP2]
      subst hW hpb
      exact ⟨by go_simp, by go_simp, by go_simp, by go_simp, by go_simp⟩
    have HL : Hid (P.Lies W (.agg #[.slice (some ⟨pb, 0, none⟩) 1 1, .slice none 0 0, .int .i64 0, .int .i64 n, .int .i64 0])) := by
      refine ⟨some ⟨pb, 0, none⟩, 1, none, 0, by rw [hPn, hPz, hP0, hP1, hP2], ⟨by omega, by omega⟩, by omega, Or.inr ⟨pb, 0, rfl, ?_, fun j hj => ?_⟩, Or.inl hPz⟩
      · rw [← hW, ← hpb]; simp; omega
      · have ej : j = 0 := by omega
        subst ej
        rw [HPL.out.1, HPL.out.2]
        subst hW hpb
        exact ⟨by go_simp, by go_simp⟩
    rw [hW, hpb]
    clear hW HPL
    refine (HI1.out _ _ HL.out).mono ?_
    rintro e w1 ⟨ra, rc, rfl, hown1, hb1⟩
    have HO1 : Hid (w1.ownsRow W.heap.size 3 1 (.slice ra N rc) N (singles f N)) := hown1
    have HL1 : Hid (P.Lies w1 (.agg #[.slice (some ⟨pb, 0, none⟩) 1 1, .slice none 0 0, .int .i64 0, .int .i64 n, .int .i64 0])) := HL.out.below hb1
    have HX1 : Hid (P.BoxAt w1 (pb + 1) (some ⟨pb, 0, none⟩) none 1 0) := HX.out.below hb1
    have b1' := bW.trans (hb1.mono bW.size)
    obtain ⟨rb, hrb⟩ : ∃ rb, w1.heap.size = rb := ⟨_, rfl⟩
    obtain ⟨W1, hW1⟩ : ∃ W1, w1.alloc (.cells #[.bool true, .int .i64 N, .slice ra N rc] 48) = W1 := ⟨_, rfl⟩
    have bq1 : Below w1.heap.size w1 W1 := by rw [← hW1]; exact (Below.refl _ _).alloc (Nat.le_refl _) _
    have HRB : Hid (W1.rowIs rb 48 3 (r3 true N (.slice ra N rc))) := by
      show World.rowIs _ _ _ _ _
      rw [← hW1, ← hrb]
      exact World.rowIs_alloc w1 #[.bool true, .int .i64 N, .slice ra N rc] 48 (r3 true N (.slice ra N rc)) (fun i hi => by simp at hi; match i, hi with | 0, _ => rfl | 1, _ => rfl | 2, _ => rfl)
    have HO1' : Hid (Row1 W1 ra N f) := (owned_row1 HO1.out).below bq1
    have HLa : Hid (P.Lies W1 (.agg #[.slice (some ⟨pb, 0, none⟩) 1 1, .slice none 0 0, .int .i64 0, .int .i64 n, .int .i64 0])) := HL1.out.below bq1
    have HXa : Hid (P.BoxAt W1 (pb + 1) (some ⟨pb, 0, none⟩) none 1 0) := HX1.out.below bq1
    have Ba := b1'.trans (bq1.mono b1'.size)
    clear hown1 hb1 HO1 HL1 HX1 b1' bq1 HL HX bW
    have hcx := HXa.out
    unfold Prof.BoxAt at hcx
    rw [hPn, hPz, hP0, hP1, hP2] at hcx
    obtain ⟨x0, x1, x2, x3, x4⟩ := hcx
    go_wp2_with fail
    clear x0 x1 x2 x3 x4
    refine (HI2.out _ _ HLa.out).mono ?_
    rintro e w2 ⟨sa, sc, rfl, hown2, hb2⟩
    have HRB2 : Hid (w2.rowIs rb 48 3 (r3 true N (.slice ra N rc))) := rowIs_below HRB.out hb2
    have HO2 : Hid (Row1 w2 ra N f) := HO1'.out.below hb2
    have HL2 : Hid (P.Lies w2 (.agg #[.slice (some ⟨pb, 0, none⟩) 1 1, .slice none 0 0, .int .i64 0, .int .i64 n, .int .i64 0])) := HLa.out.below hb2
    have HX2 : Hid (P.BoxAt w2 (pb + 1) (some ⟨pb, 0, none⟩) none 1 0) := HXa.out.below hb2
    have B2 := Ba.trans (hb2.mono Ba.size)
    obtain ⟨W2, hW2⟩ : ∃ W2, w2.alloc (.cells #[.bool true, .int .i64 N2, .slice sa N2 sc] 48) = W2 := ⟨_, rfl⟩
    obtain ⟨sb, hsb⟩ : ∃ sb, w2.heap.size = sb := ⟨_, rfl⟩
    have bq2 : Below w2.heap.size w2 W2 := by rw [← hW2]; exact (Below.refl _ _).alloc (Nat.le_refl _) _
    have HSB : Hid (W2.rowIs sb 48 3 (r3 true N2 (.slice sa N2 sc))) := by
      show World.rowIs _ _ _ _ _
      rw [← hW2, ← hsb]
      exact World.rowIs_alloc w2 #[.bool true, .int .i64 N2, .slice sa N2 sc] 48 (r3 true N2 (.slice sa N2 sc)) (fun i hi => by simp at hi; match i, hi with | 0, _ => rfl | 1, _ => rfl | 2, _ => rfl)
    have HRB3 : Hid (W2.rowIs rb 48 3 (r3 true N (.slice ra N rc))) := rowIs_below HRB2.out bq2
    have HO3 : Hid (Row1 W2 ra N f) := HO2.out.below bq2
    have HL3 : Hid (P.Lies W2 (.agg #[.slice (some ⟨pb, 0, none⟩) 1 1, .slice none 0 0, .int .i64 0, .int .i64 n, .int .i64 0])) := HL2.out.below bq2
    have HX3 : Hid (P.BoxAt W2 (pb + 1) (some ⟨pb, 0, none⟩) none 1 0) := HX2.out.below bq2
    have B3 := B2.trans (bq2.mono B2.size)
    clear hown2 hb2 bq2 HRB2 HO2 HL2 HX2 B2 HRB HO1' HLa HXa Ba
    have hcx := HX3.out
    unfold Prof.BoxAt at hcx
    rw [hPn, hPz, hP0, hP1, hP2] at hcx
    obtain ⟨x0, x1, x2, x3, x4⟩ := hcx
    have t0 : W2.cell? ⟨rb, 0, none⟩ = some (.bool true) := HRB3.out.cell (i := 0) (by omega)
    have t1 : W2.cell? ⟨rb, 1, none⟩ = some (.int .i64 N) := HRB3.out.cell (i := 1) (by omega)
    have t2 : W2.cell? ⟨rb, 2, none⟩ = some (.slice ra N rc) := HRB3.out.cell (i := 2) (by omega)
    have u0 : W2.cell? ⟨sb, 0, none⟩ = some (.bool true) := HSB.out.cell (i := 0) (by omega)
    have u1 : W2.cell? ⟨sb, 1, none⟩ = some (.int .i64 N2) := HSB.out.cell (i := 1) (by omega)
    have hno : decide ((N : Int) < (N2 : Int)) = false := by simp; omega
    go_wp2_with fail
    clear x0 x1 x2 x3 x4 t0 t1 t2 u0 u1
    refine (HR.out _ _ _ _ HL3.out HO3.out).mono ?_
    rintro e w4 ⟨rfl, hb4⟩
    have HRB4 : Hid (w4.rowIs rb 48 3 (r3 true N (.slice ra N rc))) := rowIs_below HRB3.out hb4
    have HO4 : Hid (Row1 w4 ra N f) := HO3.out.below hb4
    have HL4 : Hid (P.Lies w4 (.agg #[.slice (some ⟨pb, 0, none⟩) 1 1, .slice none 0 0, .int .i64 0, .int .i64 n, .int .i64 0])) := HL3.out.below hb4
    have HX4 : Hid (P.BoxAt w4 (pb + 1) (some ⟨pb, 0, none⟩) none 1 0) := HX3.out.below hb4
    have B4 := B3.trans (hb4.mono B3.size)
    clear hb4 HRB3 HO3 HL3 HX3 B3 HSB
    have t0 : w4.cell? ⟨rb, 0, none⟩ = some (.bool true) := HRB4.out.cell (i := 0) (by omega)
    have t1 : w4.cell? ⟨rb, 1, none⟩ = some (.int .i64 N) := HRB4.out.cell (i := 1) (by omega)
    have t2 : w4.cell? ⟨rb, 2, none⟩ = some (.slice ra N rc) := HRB4.out.cell (i := 2) (by omega)
    have hcx := HX4.out
    unfold Prof.BoxAt at hcx
    rw [hPn, hPz, hP0, hP1, hP2] at hcx
    obtain ⟨x0, x1, x2, x3, x4⟩ := hcx
    go_wp2_with fail
    go_loopw [9, 67] (fun ss si wr => ∃ k : Nat, k ≤ N ∧ ss = .int .i64 (sumTo f k) ∧ si = .int .i64 k ∧ wr = w4) (fun _ si _ => N - (intOf si).toNat)
    case atStart => exact ⟨0, Nat.zero_le _, rfl, rfl, rfl⟩
    case round =>
      obtain ⟨k, hk, rfl, rfl, rfl⟩ := hrel
      have hs0 := hsum.out.2 k hk
      obtain ⟨hs1, hs2⟩ := hs0
      by_cases hlt : k < N
      · have hs3 := hsum.out.2 (k + 1) (by omega)
        have HSS : Hid (sumTo f (k + 1) = sumTo f k + f k) := rfl
        rw [HSS.out] at hs3
        obtain ⟨hs4, hs5⟩ := hs3
        have hkI : (k : Int) < (N : Int) := by omega
        rcases HO4.out with h0 | ⟨bb, off, rfl, hbb, hcc⟩
        · omega
        have c0 := hcc k hlt
        clear hcc
        generalize f k = fk at *
        generalize sumTo f k = sk at *
        go_wp2
        go_roundw
        case rel => exact ⟨k + 1, by omega, by rw [HSS.out], by go_num, trivial⟩
        case measure => simp [intOf]; omega
      · have ek : k = N := by omega
        subst ek
        have hse : (sumTo f k == n) = true := by rw [hsum.out.1]; simp
        have hte : ((k : Int) == (k : Int)) = true := by simp
        have eS : Hid (∀ args w, (callFunc 35 args).run Try.prog w = .ok (.enter 35 args) w) := enters_of Try.func35 (by kernel_rfl) rfl
        have hSS : (fun y : World => y.cell? ⟨rb, 1, none⟩ = some (.int .i64 k) ∧ y.cell? ⟨pb + 1, 0, none⟩ = some (.slice (some ⟨pb, 0, none⟩) 1 1) ∧ y.cell? ⟨pb + 1, 1, none⟩ = some (.slice none 0 0) ∧ y.cell? ⟨pb + 1, 2, none⟩ = some (.int .i64 0) ∧ y.cell? ⟨pb + 1, 3, none⟩ = some (.int .i64 n) ∧ y.cell? ⟨pb + 1, 4, none⟩ = some (.int .i64 0)) wr.drew := ⟨t1, x0, x1, x2, x3, x4⟩
        go_wp2_with fail
        refine wp_region_held (S := (fun y : World => y.cell? ⟨rb, 1, none⟩ = some (.int .i64 k) ∧ y.cell? ⟨pb + 1, 0, none⟩ = some (.slice (some ⟨pb, 0, none⟩) 1 1) ∧ y.cell? ⟨pb + 1, 1, none⟩ = some (.slice none 0 0) ∧ y.cell? ⟨pb + 1, 2, none⟩ = some (.int .i64 0) ∧ y.cell? ⟨pb + 1, 3, none⟩ = some (.int .i64 n) ∧ y.cell? ⟨pb + 1, 4, none⟩ = some (.int .i64 0))) (by kernel_rfl) ?_
        change wpAnyH _ _ _ _ _ 13 _ _ wr.drew
        refine wpAnyH_take (i := 0) (v := .int .i64 (sumTo f k)) rfl (by kernel_rfl) (by kernel_rfl) (by kernel_rfl) (fun _ _ _ h => h) (Or.inl ⟨by rfl, fun y hy => ?_⟩) hSS ?_
        · obtain ⟨g0, g1, g2, g3, g4, g5⟩ := hy
          go_simp
        refine wpAnyH_take (i := 1) (v := .int .i64 n) rfl (by kernel_rfl) (by kernel_rfl) (by kernel_rfl) (fun _ _ _ h => h) (Or.inl ⟨by rfl, fun y hy => ?_⟩) hSS ?_
        · obtain ⟨g0, g1, g2, g3, g4, g5⟩ := hy
          go_simp
        refine wpAnyH_take (i := 2) (v := .bool true) rfl (by kernel_rfl) (by kernel_rfl) (by kernel_rfl) (fun _ _ _ h => h) (Or.inl ⟨by rfl, fun y hy => ?_⟩) hSS ?_
        · obtain ⟨g0, g1, g2, g3, g4, g5⟩ := hy
          go_simp
        refine wpAnyH_take (i := 3) (v := .bool true) rfl (by kernel_rfl) (by kernel_rfl) (by kernel_rfl) (fun _ _ _ h => h) (Or.inl ⟨by rfl, fun y hy => ?_⟩) hSS ?_
        · obtain ⟨g0, g1, g2, g3, g4, g5⟩ := hy
          go_simp
        refine wpAnyH_take (i := 4) (v := .pointer (some ⟨rb, 1, none⟩)) rfl (by kernel_rfl) (by kernel_rfl) (by kernel_rfl) (fun _ _ _ h => h) (Or.inl ⟨by simp [Region.wanted, yielded, Act.put], fun y hy => ?_⟩) hSS ?_
        · obtain ⟨g0, g1, g2, g3, g4, g5⟩ := hy
          go_simp
        refine wpAnyH_take (i := 5) (v := .int .i64 (k : Nat)) rfl (by kernel_rfl) (by kernel_rfl) (by kernel_rfl) (fun _ _ _ h => h) (Or.inl ⟨by simp [Region.wanted, yielded, Act.put], fun y hy => ?_⟩) hSS ?_
        · obtain ⟨g0, g1, g2, g3, g4, g5⟩ := hy
          go_simp
        refine wpAnyH_take (i := 6) (v := .agg #[.slice (some ⟨pb, 0, none⟩) 1 1, .slice none 0 0, .int .i64 0, .int .i64 n, .int .i64 0]) rfl (by kernel_rfl) (by kernel_rfl) (by kernel_rfl) (fun _ _ _ h => h) (Or.inl ⟨by simp [Region.wanted, yielded, Act.put], fun y hy => ?_⟩) hSS ?_
        · obtain ⟨g0, g1, g2, g3, g4, g5⟩ := hy
          go_simp
        refine wpAnyH_take (i := 7) (v := .int .i64 acc) rfl (by kernel_rfl) (by kernel_rfl) (by kernel_rfl) (fun _ _ _ h => h) (Or.inl ⟨by simp [Region.wanted, yielded, Act.put], fun y hy => ?_⟩) hSS ?_
        · obtain ⟨g0, g1, g2, g3, g4, g5⟩ := hy
          go_simp
        refine wpAnyH_one (i := 8) rfl (by kernel_rfl) (fun K hK => ?_)
        rw [if_pos (by simp [Region.wanted, yielded, Act.put])]
        refine wp_call4 35 (.tmp 81) (.tmp 82) (.const (.int .i64 0)) (.const (.int .i64 0)) _ rfl (.agg #[.slice (some ⟨pb, 0, none⟩) 1 1, .slice none 0 0, .int .i64 0, .int .i64 n, .int .i64 0]) (.int .i64 acc) (.int .i64 0) (.int .i64 0) (by simp [Act.eval, Act.put]) (by simp [Act.eval, Act.put]) (by simp [Act.eval]) (by simp [Act.eval]) eS.out (HS.out _ wr.drew (HL4.out.below (Below.refl _ _).drew)) ?_
        rintro e w5 ⟨ga, gc, rfl, _, hb5⟩
        have q5 : Below wr.heap.size wr w5 := (Below.refl _ _).drew.trans (hb5.mono (by simp))
        have l1 := HRB4.out.lt
        have l2 := HX4.out.lt
        have hS5 : (fun y : World => y.cell? ⟨rb, 1, none⟩ = some (.int .i64 k) ∧ y.cell? ⟨pb + 1, 0, none⟩ = some (.slice (some ⟨pb, 0, none⟩) 1 1) ∧ y.cell? ⟨pb + 1, 1, none⟩ = some (.slice none 0 0) ∧ y.cell? ⟨pb + 1, 2, none⟩ = some (.int .i64 0) ∧ y.cell? ⟨pb + 1, 3, none⟩ = some (.int .i64 n) ∧ y.cell? ⟨pb + 1, 4, none⟩ = some (.int .i64 0)) w5 := ⟨(q5.cell (p := ⟨rb, 1, none⟩) l1).trans t1, (q5.cell (p := ⟨pb + 1, 0, none⟩) l2).trans x0, (q5.cell (p := ⟨pb + 1, 1, none⟩) l2).trans x1, (q5.cell (p := ⟨pb + 1, 2, none⟩) l2).trans x2, (q5.cell (p := ⟨pb + 1, 3, none⟩) l2).trans x3, (q5.cell (p := ⟨pb + 1, 4, none⟩) l2).trans x4⟩
        have B5 := B4.trans (q5.mono B4.size)
        have hfd : ∀ y : World, (Instr.field 48 (.agg #[.bool true, .int .i64 (k : Nat), .slice ga k gc]) 1).run Try.prog y = .ok (.int .i64 (k : Nat)) y := fun y => rfl
        refine ⟨_, rfl, hK _ _ hS5 ?_⟩
        clear hK K hb5 hSS t0 t1 t2 x0 x1 x2 x3 x4
        refine wpAnyH_take (i := 9) (v := .int .i64 (k : Nat)) rfl (by kernel_rfl) (by kernel_rfl) (by kernel_rfl) (fun _ _ _ h => h) (Or.inl ⟨by simp [Region.wanted, yielded, Act.put], fun y hy => ?_⟩) hS5 ?_
        · go_simp
        refine wpAnyH_take (i := 10) (v := .bool true) rfl (by kernel_rfl) (by kernel_rfl) (by kernel_rfl) (fun _ _ _ h => h) (Or.inl ⟨by simp [Region.wanted, yielded, Act.put], fun y hy => ?_⟩) hS5 ?_
        · go_simp
        refine wpAnyH_take (i := 11) (v := .bool true) rfl (by kernel_rfl) (by kernel_rfl) (by kernel_rfl) (fun _ _ _ h => h) (Or.inl ⟨by rfl, fun y hy => ?_⟩) hS5 ?_
        · go_simp
        refine wpAnyH_take (i := 12) (v := .bool true) rfl (by kernel_rfl) (by kernel_rfl) (by kernel_rfl) (fun _ _ _ h => h) (Or.inl ⟨by rfl, fun y hy => ?_⟩) hS5 ?_
        · go_simp
        refine wpAnyH_done (by kernel_rfl) ?_ _
        go_wp2
        go_ret
        exact ⟨rfl, by rw [← hpb]; exact B5⟩

end Go.Proofs.Yteodefmpkljedaa
