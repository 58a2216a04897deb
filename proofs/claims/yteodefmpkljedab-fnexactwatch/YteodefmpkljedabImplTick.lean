/-
  The program's watching: a tick of a watched train.
-/
import Derived.Test.YteodefmpkljedabCourse3
import Derived.Test.YteodefmpkljedabWatch
namespace Go.Proofs.Yteodefmpkljedab
open Go.RowKit
attribute [local go_sem ↓] Go.wp_at_zero Go.wp_at_succ
set_option linter.unusedVariables false

/-- The train of a watched run behind k ticks. -/
def Prof.wtr (P : Prof) (k : Nat) (s : WSt) : Tr := if k = 0 then P.sent s.x s.v else P.moved s.n s.was s.v
/-- A tick, as the program does it. -/
def Prof.tick (P : Prof) (t : Tr) (w : Int) : Tr := if P.isSafe t.at_ w = true then P.tnext (P.sent t.at_ w) else P.tnext t
theorem Prof.isSafe_iff {P : Prof} {x w : Int} : P.isSafe x w = true ↔ (0 ≤ w ∧ w ≤ 10000 ∧ P.safe 0 x w = true) := by
  unfold Prof.isSafe
  simp [and_assoc]
theorem Prof.wtr_at {P : Prof} {x : Int} {k : Nat} {s : WSt} (h : P.WInv x k s) : (P.wtr k s).at_ = s.x := by
  unfold Prof.wtr
  by_cases c : k = 0
  · rw [if_pos c]; rfl
  · rw [if_neg c]
    exact (h.2.2.2.2.1 (by omega)).symm
theorem Prof.wtr_step {P : Prof} (hd : 0 ≤ P.delay) {x : Int} {k : Nat} {s : WSt} (h : P.WInv x k s) (h0 : k = 0 → s.n = 0) (w : Int) : P.tick (P.wtr k s) w = P.wtr (k + 1) (P.wstep k s w) := by
  unfold Prof.tick
  rw [Prof.wtr_at h]
  unfold Prof.wstep
  by_cases c : P.isSafe s.x w = true
  · rw [if_pos c, if_pos (Prof.isSafe_iff.1 c), P.tnext_sent hd]
    unfold Prof.wtr
    rw [if_neg (by omega)]
  · rw [if_neg c, if_neg (fun d => c (Prof.isSafe_iff.2 d))]
    by_cases e : k = 0
    · rw [if_pos e]
      unfold Prof.wtr
      rw [if_pos e, if_neg (by omega), P.tnext_sent hd]
      dsimp only
      rw [h0 e]
    · rw [if_neg e]
      have h5 := h.2.2.2.2.1 (by omega)
      unfold Prof.wtr
      rw [if_neg e, if_neg (by omega), P.tnext_moved]
      dsimp only
      rw [h5]
theorem Prof.wtr_in {P : Prof} (h : P.Fit) {x : Int} {k : Nat} {s : WSt} (hi : P.WInv x k s) : (0 ≤ (P.wtr k s).speed ∧ (P.wtr k s).speed ≤ 10000) ∧ (0 ≤ (P.wtr k s).at_ ∧ (P.wtr k s).at_ ≤ 100000000) ∧ (0 ≤ (P.wtr k s).keeps ∧ (P.wtr k s).keeps ≤ 21) ∧ (P.wtr k s).speed = s.v := by
  have ha := Prof.wtr_at hi
  have hf := h.fin
  have hd := h.delay
  obtain ⟨i1, i2, i3, i4, i5, i6, i7, i8, _⟩ := hi
  rw [ha]
  unfold Prof.wtr
  by_cases c : k = 0
  · rw [if_pos c]
    unfold Prof.sent
    dsimp only
    omega
  · rw [if_neg c]
    have := P.left_in hd.1 hd.2 i8
    unfold Prof.moved
    dsimp only
    omega
theorem Prof.wst_n0 (P : Prof) (x u : Int) (z : Nat → Int) {k : Nat} (h : k = 0) : (P.wst x u z k).n = 0 := by subst h; rfl
theorem Prof.wst_braked (P : Prof) (k : Nat) (s : WSt) (w : Int) : (P.wstep k s w).braked = if P.isSafe s.x w = true then s.braked else s.braked + 1 := by
  unfold Prof.wstep
  by_cases c : P.isSafe s.x w = true
  · rw [if_pos c, if_pos (Prof.isSafe_iff.1 c)]
  · rw [if_neg c, if_neg (fun d => c (Prof.isSafe_iff.2 d))]
    split <;> rfl

set_option maxHeartbeats 4000000 in
theorem watching_any (P : Prof) (ap az : Option Addr) (cp cz g h n cn : Nat) (s bg a k : Int) (w : World) :
    Calls Try.prog 90 #[.agg #[.slice ap P.np cp, .slice az P.nz cz, .int .i64 P.train, .int .i64 P.fin, .int .i64 P.delay, .slice (some ⟨g, 0, none⟩) P.np P.np, .slice (some ⟨h, 0, none⟩) n cn], .agg #[.int .i64 s, .int .i64 bg, .int .i64 a, .int .i64 k]] w fun e w' => e = .returned (.func (.func 123) #[] #[.pointer (some ⟨w.heap.size, 0, none⟩), .pointer (some ⟨w.heap.size + 1, 0, none⟩)]) ∧ P.CBox w' w.heap.size ap az cp cz g h n cn ∧ w'.rowIs (w.heap.size + 1) 105 4 (Tr.cell ⟨s, bg, a, k⟩) ∧ w'.heap.size = w.heap.size + 2 ∧ Below w.heap.size w w' := by
  have hmf : ∀ (fn : Fn) (first cap : Array Value) (w : World), (Instr.makeFunc fn first cap).run Try.prog w = .ok (.func fn first cap) w := fun _ _ _ _ => rfl
  go_enter Try.func90, Try.ntmps90
  go_wp2
  go_ret
  refine ⟨rfl, ⟨by go_simp, by go_simp, by go_simp, by go_simp, by go_simp, by go_simp, by go_simp⟩, ?_, by simp, ((Below.refl _ _).alloc (Nat.le_refl _) _).alloc (by simp) _⟩
  have := World.rowIs_alloc (w.alloc (.cells #[.slice ap P.np cp, .slice az P.nz cz, .int .i64 P.train, .int .i64 P.fin, .int .i64 P.delay, .slice (some ⟨g, 0, none⟩) P.np P.np, .slice (some ⟨h, 0, none⟩) n cn] 94)) #[.int .i64 s, .int .i64 bg, .int .i64 a, .int .i64 k] 105 (Tr.cell ⟨s, bg, a, k⟩) (fun i hi => by simp at hi; simp [Tr.cell, hi])
  simpa using this

theorem gB_below {w y y' : World} {B : Nat} (h : w.grownBy y (some B)) (hb : Below y.heap.size y y') : w.grownBy y' (some B) :=
  ⟨hb.os.trans h.os, hb.tape.trans h.tape, hb.output.trans h.output, Nat.le_trans h.size hb.size, fun k hk hr => (hb.block k (Nat.lt_of_lt_of_le hk h.size)).trans (h.block k hk hr)⟩
theorem gB_set {w y : World} {B : Nat} (h : w.grownBy y (some B)) (i : Nat) (v : Value) : w.grownBy (y.setCell ⟨B, i, none⟩ v) (some B) :=
  ⟨h.os, h.tape, h.output, by simpa [World.setCell] using h.size, fun k hk hr => (Below.heap_setCell _ _ _ _ (fun e => hr (by rw [e]))).trans (h.block k hk hr)⟩
theorem gB_new {w y : World} {B b : Nat} (h : w.grownBy y (some B)) (hb : w.heap.size ≤ b) (i : Nat) (v : Value) : w.grownBy (y.setCell ⟨b, i, none⟩ v) (some B) :=
  ⟨h.os, h.tape, h.output, by simpa [World.setCell] using h.size, fun k hk hr => (Below.heap_setCell _ _ _ _ (by show k ≠ b; omega)).trans (h.block k hk hr)⟩
theorem Prof.CBox.setOther {P : Prof} {w : World} {q : Nat} {ap az : Option Addr} {cp cz g h n cn : Nat} (k : P.CBox w q ap az cp cz g h n cn) {B : Nat} (hne : q ≠ B) (i : Nat) (v : Value) : P.CBox (w.setCell ⟨B, i, none⟩ v) q ap az cp cz g h n cn := by
  have hb : (w.setCell ⟨B, i, none⟩ v).heap[q]? = w.heap[q]? := Below.heap_setCell _ _ _ _ hne
  obtain ⟨h0, h1, h2, h3, h4, h5, h6⟩ := k
  refine ⟨?_, ?_, ?_, ?_, ?_, ?_, ?_⟩ <;> (rw [World.cell?_of_block (by exact hb)]; assumption)

set_option maxRecDepth 20000 in
set_option maxHeartbeats 16000000 in
theorem tick_any (P : Prof) (B1 B2 : Nat) (ap az : Option Addr) (cp cz g h n cn : Nat) (s bg a k u : Int) (w0 w : World) (hne : B1 ≠ B2) (hx : P.CBox w B1 ap az cp cz g h n cn) (hr : w.rowIs B2 105 4 (Tr.cell ⟨s, bg, a, k⟩))
    (hc : P.CourseIs w0 (.agg #[.slice ap P.np cp, .slice az P.nz cz, .int .i64 P.train, .int .i64 P.fin, .int .i64 P.delay, .slice (some ⟨g, 0, none⟩) P.np P.np, .slice (some ⟨h, 0, none⟩) n cn])) (hb0 : Below w0.heap.size w0 w) (hB2 : w0.heap.size ≤ B2) (hf : P.Fit) (s0 : 0 ≤ s) (s1 : s ≤ 10000) (a0 : 0 ≤ a) (a1 : a ≤ 100000000) (k0 : 0 ≤ k) (k1 : k ≤ 21) :
    Calls Try.prog 123 #[.int .i64 u, .pointer (some ⟨B1, 0, none⟩), .pointer (some ⟨B2, 0, none⟩)] w fun e w' => ∃ s' b' a' k', P.tick ⟨s, bg, a, k⟩ u = ⟨s', b', a', k'⟩ ∧ e = .returned (.tuple #[.agg #[.int .i64 s', .int .i64 b', .int .i64 a', .int .i64 k'], .bool (!P.isSafe a u)]) ∧ w'.rowIs B2 105 4 (Tr.cell ⟨s', b', a', k'⟩) ∧ w.grownBy w' (some B2) := by
  have HC : Hid (P.CourseIs w0 (.agg #[.slice ap P.np cp, .slice az P.nz cz, .int .i64 P.train, .int .i64 P.fin, .int .i64 P.delay, .slice (some ⟨g, 0, none⟩) P.np P.np, .slice (some ⟨h, 0, none⟩) n cn])) := hc
  have HF : Hid P.Fit := hf
  obtain ⟨d0, d1⟩ := hf.delay
  have l1 := hx.lt
  have l2 := hr.lt
  clear hc hf
  obtain ⟨W1, hW1⟩ : ∃ W1, w.alloc (.cells #[.int .i64 0, .int .i64 0, .int .i64 0, .int .i64 0] 105) = W1 := ⟨_, rfl⟩
  have bw1 : Below w.heap.size w W1 := by rw [← hW1]; exact (Below.refl _ _).alloc (Nat.le_refl _) _
  have HZ1 : Hid (W1.rowIs w.heap.size 105 4 (Tr.cell ⟨0, 0, 0, 0⟩)) := by
    show World.rowIs _ _ _ _ _
    rw [← hW1]
    exact World.rowIs_alloc w #[.int .i64 0, .int .i64 0, .int .i64 0, .int .i64 0] 105 (Tr.cell ⟨0, 0, 0, 0⟩) (fun i hi => by simp at hi; simp [Tr.cell, hi])
  have b1 : Below w0.heap.size w0 W1 := hb0.trans (bw1.mono hb0.size)
  have g1 : w.grownBy W1 (some B2) := gB_below (World.grownBy.refl w _) bw1
  have HX1 : Hid (P.CBox W1 B1 ap az cp cz g h n cn) := hx.below bw1
  have HR1 : Hid (W1.rowIs B2 105 4 (Tr.cell ⟨s, bg, a, k⟩)) := rowIs_below hr bw1
  obtain ⟨x0, x1, x2, x3, x4, x5, x6⟩ := HX1.out
  have u2 := HR1.out.cell (i := 2) (by omega)
  simp only [Tr.cell] at u2
  clear hx hr bw1
  go_enter Try.func123, Try.ntmps123
  go_wp2_with fail
  clear hW1
  refine (isSafe_any P _ a u _ (HC.out.below b1) HF.out a0 a1).mono ?_
  rintro e w2 ⟨rfl, hb2⟩
  have b2 := b1.trans (hb2.mono b1.size)
  have g2 := gB_below g1 hb2
  have HX2 : Hid (P.CBox w2 B1 ap az cp cz g h n cn) := HX1.out.below hb2
  have HR2 : Hid (w2.rowIs B2 105 4 (Tr.cell ⟨s, bg, a, k⟩)) := rowIs_below HR1.out hb2
  have HZ2 : Hid (w2.rowIs w.heap.size 105 4 (Tr.cell ⟨0, 0, 0, 0⟩)) := rowIs_below HZ1.out hb2
  clear x0 x1 x2 x3 x4 x5 x6 u2 hb2 HX1 HR1 HZ1 g1 b1
  obtain ⟨x0, x1, x2, x3, x4, x5, x6⟩ := HX2.out
  have u0 := HR2.out.cell (i := 0) (by omega)
  have u1 := HR2.out.cell (i := 1) (by omega)
  have u2 := HR2.out.cell (i := 2) (by omega)
  have u3 := HR2.out.cell (i := 3) (by omega)
  have uf := HR2.out.frozen
  simp only [Tr.cell] at u0 u1 u2 u3
  cases hsf : P.isSafe a u with
  | true =>
    obtain ⟨q0, q1, q2⟩ := Prof.isSafe_iff.1 hsf
    have HSF : Hid (P.isSafe a u = true) := hsf
    have hfin := Prof.may_end (Prof.safe_may q2)
    clear hsf q2
    go_wp2_with fail
    refine (sent_any P ap az cp cz g h n cn a u _ d0 d1).mono ?_
    rintro e w3 ⟨rfl, hb3⟩
    have b3 := b2.trans (hb3.mono b2.size)
    have g3 := gB_below g2 hb3
    have HX3 : Hid (P.CBox w3 B1 ap az cp cz g h n cn) := HX2.out.below hb3
    have HR3 : Hid (w3.rowIs B2 105 4 (Tr.cell ⟨s, bg, a, k⟩)) := rowIs_below HR2.out hb3
    have HZ3 : Hid (w3.rowIs w.heap.size 105 4 (Tr.cell ⟨0, 0, 0, 0⟩)) := rowIs_below HZ2.out hb3
    unfold Prof.sent Tr.val
    dsimp only
    clear x0 x1 x2 x3 x4 x5 x6 u0 u1 u2 u3 uf hb3 HX2 HR2 HZ2 g2 b2
    have u0 := HR3.out.cell (i := 0) (by omega)
    have u1 := HR3.out.cell (i := 1) (by omega)
    have u2 := HR3.out.cell (i := 2) (by omega)
    have u3 := HR3.out.cell (i := 3) (by omega)
    have uf := HR3.out.frozen
    simp only [Tr.cell] at u0 u1 u2 u3
    obtain ⟨W4, hW4⟩ : ∃ W4, (((w3.setCell ⟨B2, 0, none⟩ (.int .i64 u)).setCell ⟨B2, 1, none⟩ (.int .i64 a)).setCell ⟨B2, 2, none⟩ (.int .i64 a)).setCell ⟨B2, 3, none⟩ (.int .i64 (P.delay + 1)) = W4 := ⟨_, rfl⟩
    have bc : Below w0.heap.size w0 W4 := by
      rw [← hW4]
      iterate 4 refine Below.setCell ?_ (by simpa using hB2) _
      exact b3
    have gc : w.grownBy W4 (some B2) := by rw [← hW4]; exact gB_set (gB_set (gB_set (gB_set g3 _ _) _ _) _ _) _ _
    have HXc : Hid (P.CBox W4 B1 ap az cp cz g h n cn) := by show Prof.CBox _ _ _ _ _ _ _ _ _ _ _; rw [← hW4]; exact (((HX3.out.setOther hne _ _).setOther hne _ _).setOther hne _ _).setOther hne _ _
    have HRc : Hid (W4.rowIs B2 105 4 (Tr.cell ⟨u, a, a, P.delay + 1⟩)) := by show World.rowIs _ _ _ _ _; rw [← hW4]; exact tr_set HR3.out _ _ _ _
    have HZc : Hid (W4.rowIs w.heap.size 105 4 (Tr.cell ⟨0, 0, 0, 0⟩)) := by
      show World.rowIs _ _ _ _ _
      rw [← hW4]
      iterate 4 refine World.rowIs.setOther ?_ (by simp; omega) _
      exact HZ3.out
    obtain ⟨x0, x1, x2, x3, x4, x5, x6⟩ := HXc.out
    have p0 := HRc.out.cell (i := 0) (by omega)
    have p1 := HRc.out.cell (i := 1) (by omega)
    have p2 := HRc.out.cell (i := 2) (by omega)
    have p3 := HRc.out.cell (i := 3) (by omega)
    simp only [Tr.cell] at p0 p1 p2 p3
    obtain ⟨⟨s', b', a', k'⟩, ht⟩ : ∃ t', P.tnext ⟨u, a, a, (P.delay + 1)⟩ = t' := ⟨_, rfl⟩
    have HTK : Hid (P.tick ⟨s, bg, a, k⟩ u = ⟨s', b', a', k'⟩) := by show _ = _; unfold Prof.tick; rw [if_pos HSF.out, ← ht]; rfl
    have HNX : Hid (Calls Try.prog 120 #[.agg #[.slice ap P.np cp, .slice az P.nz cz, .int .i64 P.train, .int .i64 P.fin, .int .i64 P.delay, .slice (some ⟨g, 0, none⟩) P.np P.np, .slice (some ⟨h, 0, none⟩) n cn], .agg #[.int .i64 u, .int .i64 a, .int .i64 a, .int .i64 (P.delay + 1)]] W4 fun e w' => e = .returned (.agg #[.int .i64 s', .int .i64 b', .int .i64 a', .int .i64 k']) ∧ Below W4.heap.size W4 w') := by
      show Calls _ _ _ _ _
      have := next_any P _ ⟨u, a, a, (P.delay + 1)⟩ W4 (HC.out.below bc) HF.out (by dsimp only; omega) (by dsimp only; omega) (by dsimp only; omega) (by dsimp only; omega) (by dsimp only; omega) (by dsimp only; omega)
      rw [ht] at this
      exact this
    clear ht
    go_wp2_with fail
    refine HNX.out.mono ?_
    rintro e w5 ⟨rfl, hb5⟩
    have b5 := bc.trans (hb5.mono bc.size)
    have g5 := gB_below gc hb5
    have HR5 : Hid (w5.rowIs B2 105 4 (Tr.cell ⟨u, a, a, (P.delay + 1)⟩)) := rowIs_below HRc.out hb5
    have HZ5 : Hid (w5.rowIs w.heap.size 105 4 (Tr.cell ⟨0, 0, 0, 0⟩)) := rowIs_below HZc.out hb5
    clear x0 x1 x2 x3 x4 x5 x6 u0 u1 u2 u3 uf p0 p1 p2 p3 hb5 hW4 HNX
    have v0 := HR5.out.cell (i := 0) (by omega)
    have v1 := HR5.out.cell (i := 1) (by omega)
    have v2 := HR5.out.cell (i := 2) (by omega)
    have v3 := HR5.out.cell (i := 3) (by omega)
    have vf := HR5.out.frozen
    have y0 := HZ5.out.cell (i := 0) (by omega)
    have y1 := HZ5.out.cell (i := 1) (by omega)
    have y2 := HZ5.out.cell (i := 2) (by omega)
    have y3 := HZ5.out.cell (i := 3) (by omega)
    have yf := HZ5.out.frozen
    simp only [Tr.cell] at v0 v1 v2 v3 y0 y1 y2 y3
    have hneW : ¬ (w.heap.size = B2) := by omega
    have hneW' : ¬ (B2 = w.heap.size) := by omega
    go_wp2
    refine bodyPost_ret (v := .tuple #[.agg #[.int .i64 s', .int .i64 b', .int .i64 a', .int .i64 k'], .bool false]) (by simp [results, Try.results123, go_sem, *]) rfl ⟨s', b', a', k', HTK.out, by rw [HSF.out]; rfl, ?_, ?_⟩
    · iterate 4 refine World.rowIs.setOther ?_ (by simp; omega) _
      exact tr_set HR5.out _ _ _ _
    · iterate 4 refine gB_new ?_ (Nat.le_refl _) _ _
      iterate 4 refine gB_set ?_ _ _
      exact g5
  | false =>
    have HSF : Hid (P.isSafe a u = false) := hsf
    clear hsf
    have bc := b2
    have gc := g2
    have HXc := HX2
    have HRc := HR2
    have HZc := HZ2
    obtain ⟨⟨s', b', a', k'⟩, ht⟩ : ∃ t', P.tnext ⟨s, bg, a, k⟩ = t' := ⟨_, rfl⟩
    have HTK : Hid (P.tick ⟨s, bg, a, k⟩ u = ⟨s', b', a', k'⟩) := by show _ = _; unfold Prof.tick; rw [if_neg (by rw [HSF.out]; simp), ← ht]
    have HNX : Hid (Calls Try.prog 120 #[.agg #[.slice ap P.np cp, .slice az P.nz cz, .int .i64 P.train, .int .i64 P.fin, .int .i64 P.delay, .slice (some ⟨g, 0, none⟩) P.np P.np, .slice (some ⟨h, 0, none⟩) n cn], .agg #[.int .i64 s, .int .i64 bg, .int .i64 a, .int .i64 k]] w2 fun e w' => e = .returned (.agg #[.int .i64 s', .int .i64 b', .int .i64 a', .int .i64 k']) ∧ Below w2.heap.size w2 w') := by
      show Calls _ _ _ _ _
      have := next_any P _ ⟨s, bg, a, k⟩ w2 (HC.out.below bc) HF.out (by dsimp only; omega) (by dsimp only; omega) (by dsimp only; omega) (by dsimp only; omega) (by dsimp only; omega) (by dsimp only; omega)
      rw [ht] at this
      exact this
    clear ht
    go_wp2_with fail
    refine HNX.out.mono ?_
    rintro e w5 ⟨rfl, hb5⟩
    have b5 := bc.trans (hb5.mono bc.size)
    have g5 := gB_below gc hb5
    have HR5 : Hid (w5.rowIs B2 105 4 (Tr.cell ⟨s, bg, a, k⟩)) := rowIs_below HRc.out hb5
    have HZ5 : Hid (w5.rowIs w.heap.size 105 4 (Tr.cell ⟨0, 0, 0, 0⟩)) := rowIs_below HZc.out hb5
    clear x0 x1 x2 x3 x4 x5 x6 u0 u1 u2 u3 uf hb5 HNX
    have v0 := HR5.out.cell (i := 0) (by omega)
    have v1 := HR5.out.cell (i := 1) (by omega)
    have v2 := HR5.out.cell (i := 2) (by omega)
    have v3 := HR5.out.cell (i := 3) (by omega)
    have vf := HR5.out.frozen
    have y0 := HZ5.out.cell (i := 0) (by omega)
    have y1 := HZ5.out.cell (i := 1) (by omega)
    have y2 := HZ5.out.cell (i := 2) (by omega)
    have y3 := HZ5.out.cell (i := 3) (by omega)
    have yf := HZ5.out.frozen
    simp only [Tr.cell] at v0 v1 v2 v3 y0 y1 y2 y3
    have hneW : ¬ (w.heap.size = B2) := by omega
    have hneW' : ¬ (B2 = w.heap.size) := by omega
    go_wp2
    refine bodyPost_ret (v := .tuple #[.agg #[.int .i64 s', .int .i64 b', .int .i64 a', .int .i64 k'], .bool true]) (by simp [results, Try.results123, go_sem, *]) rfl ⟨s', b', a', k', HTK.out, by rw [HSF.out]; rfl, ?_, ?_⟩
    · iterate 4 refine World.rowIs.setOther ?_ (by simp; omega) _
      exact tr_set HR5.out _ _ _ _
    · iterate 4 refine gB_new ?_ (Nat.le_refl _) _ _
      iterate 4 refine gB_set ?_ _ _
      exact g5

end Go.Proofs.Yteodefmpkljedab
