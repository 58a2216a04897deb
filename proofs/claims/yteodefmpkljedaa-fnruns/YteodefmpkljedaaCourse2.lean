/-
  The program's isSafe: the bounds in the order in which a train meets them.
-/
import Derived.Test.YteodefmpkljedaaCourse1
import Derived.Deep.QuietTactic
import Derived.BigQuiet
namespace Go.Proofs.Yteodefmpkljedaa
open Go.RowKit
attribute [local go_sem ↓] Go.wp_at_zero Go.wp_at_succ
set_option linter.unusedVariables false

/-- A variable that holds a course. -/
def Prof.CBox (P : Prof) (w : World) (q : Nat) (ap az : Option Addr) (cp cz g h n cn : Nat) : Prop :=
  w.cell? ⟨q, 0, none⟩ = some (.slice ap P.np cp) ∧ w.cell? ⟨q, 1, none⟩ = some (.slice az P.nz cz) ∧ w.cell? ⟨q, 2, none⟩ = some (.int .i64 P.train) ∧ w.cell? ⟨q, 3, none⟩ = some (.int .i64 P.fin) ∧ w.cell? ⟨q, 4, none⟩ = some (.int .i64 P.delay) ∧ w.cell? ⟨q, 5, none⟩ = some (.slice (some ⟨g, 0, none⟩) P.np P.np) ∧ w.cell? ⟨q, 6, none⟩ = some (.slice (some ⟨h, 0, none⟩) n cn)
theorem Prof.CBox.below' {P : Prof} {w w1 : World} {q m : Nat} {ap az : Option Addr} {cp cz g h n cn : Nat} (k : P.CBox w q ap az cp cz g h n cn) (hm : q < m) (hb : Below m w w1) : P.CBox w1 q ap az cp cz g h n cn := by
  obtain ⟨h0, h1, h2, h3, h4, h5, h6⟩ := k
  refine ⟨?_, ?_, ?_, ?_, ?_, ?_, ?_⟩ <;> (rw [hb.cell hm]; assumption)
theorem Prof.CBox.lt {P : Prof} {w : World} {q : Nat} {ap az : Option Addr} {cp cz g h n cn : Nat} (k : P.CBox w q ap az cp cz g h n cn) : q < w.heap.size := World.block_lt_of_cell? _ _ k.1
theorem Prof.CBox.below {P : Prof} {w w1 : World} {q : Nat} {ap az : Option Addr} {cp cz g h n cn : Nat} (k : P.CBox w q ap az cp cz g h n cn) (hb : Below w.heap.size w w1) : P.CBox w1 q ap az cp cz g h n cn := k.below' k.lt hb

def cellI (w : World) (a : Addr) : Int := match w.cell? a with | some v => intOf v | none => 0
def trAt (w : World) (B : Nat) : Tr := ⟨cellI w ⟨B, 0, none⟩, cellI w ⟨B, 1, none⟩, cellI w ⟨B, 2, none⟩, cellI w ⟨B, 3, none⟩⟩
theorem trAt_of {w : World} {B T : Nat} {t : Tr} (h : w.rowIs B T 4 t.cell) : trAt w B = t := by
  unfold trAt cellI
  rw [h.cell (i := 0) (by omega), h.cell (i := 1) (by omega), h.cell (i := 2) (by omega), h.cell (i := 3) (by omega)]
  rfl
def Prof.msr (P : Prof) (w : World) (B : Nat) : Nat := (P.tnext (trAt w B)).keeps.toNat + (P.tnext (trAt w B)).speed.toNat
theorem Prof.msr_of {P : Prof} {w : World} {B T : Nat} {t : Tr} {n y z : Int} (h : w.rowIs B T 4 t.cell) (e : P.tnext t = P.moved n y z) : P.msr w B = (P.left n).toNat + z.toNat := by
  unfold Prof.msr
  rw [trAt_of h, e]
  rfl
theorem Prof.left_less {P : Prof} (hr : ∀ x, 1 ≤ P.rate x) {n y z : Int} (hz : 0 < z) : (P.left (n + 1)).toNat + (P.next n y z).toNat < (P.left n).toNat + z.toNat := by
  have hl := less_lt (v := z) (b := P.rate y) (by omega) (hr y)
  have hb := less_bounds (v := z) (b := P.rate y) (by omega) (by have := hr y; omega)
  unfold Prof.left Prof.next
  by_cases c : n < P.delay
  · have c1 : ¬ P.delay ≤ n := by omega
    rw [if_pos c, if_neg c1]
    split <;> omega
  · have c1 : P.delay ≤ n := by omega
    have c2 : ¬ n + 1 < P.delay := by omega
    rw [if_neg c, if_neg c2, if_pos c1]
    omega
theorem Prof.left_in {P : Prof} (h0 : 0 ≤ P.delay) (h1 : P.delay ≤ 20) {n : Int} (hn : 0 ≤ n) : 0 ≤ P.left n ∧ P.left n ≤ 21 := by
  unfold Prof.left
  split <;> omega
theorem Tr.cell_eq (s bg a k : Int) : (⟨s, bg, a, k⟩ : Tr).cell = fun i => #[Value.int .i64 s, Value.int .i64 bg, Value.int .i64 a, Value.int .i64 k][i]! := rfl
/-- Four stores of a train. -/
theorem tr_set {w : World} {B T : Nat} {t : Tr} (h : w.rowIs B T 4 t.cell) (s bg a k : Int) : ((((w.setCell ⟨B, 0, none⟩ (.int .i64 s)).setCell ⟨B, 1, none⟩ (.int .i64 bg)).setCell ⟨B, 2, none⟩ (.int .i64 a)).setCell ⟨B, 3, none⟩ (.int .i64 k)).rowIs B T 4 (Tr.cell ⟨s, bg, a, k⟩) := by
  refine ((((h.set 0 _).set 1 _).set 2 _).set 3 _).congr (fun i hi => ?_)
  match i, hi with
  | 0, _ => rfl
  | 1, _ => rfl
  | 2, _ => rfl
  | 3, _ => rfl

set_option maxHeartbeats 4000000 in
theorem isSafe_no (P : Prof) (v : Value) (x u : Int) (w : World) (hc : P.CourseIs w v) (hu : u < 0 ∨ 10000 < u) :
    Calls Try.prog 47 #[v, .int .i64 x, .int .i64 u] w fun e w' => e = .returned (.bool (P.isSafe x u)) ∧ Below w.heap.size w w' := by
  obtain ⟨ap, cp, az, cz, g, h, n, cn, b, rfl, hway, hn, hrow, hB⟩ := hc
  clear hway hrow hB
  have HE : Hid (P.isSafe x u = false) := by
    show _ = _
    unfold Prof.isSafe
    have : decide (0 ≤ u ∧ u ≤ 10000) = false := by simp; omega
    rw [this]; rfl
  go_enter Try.func47, Try.ntmps47
  go_wp2_with (go_at_call 55; refine (isSpeed_no _ _ hu).mono ?_; rintro e w2 ⟨rfl, rfl⟩)
  go_ret
  exact ⟨ret_bool HE.out.symm, (Below.refl _ _).alloc (Nat.le_refl _) _⟩

set_option maxRecDepth 20000 in
set_option maxHeartbeats 40000000 in
theorem isSafe_go (P : Prof) (v : Value) (x u : Int) (w : World) (hc : P.CourseIs w v) (hf : P.Fit) (hx0 : 0 ≤ x) (hx1 : x ≤ 100000000) (hu0 : 0 ≤ u) (hu1 : u ≤ 10000) :
    Calls Try.prog 47 #[v, .int .i64 x, .int .i64 u] w fun e w' => e = .returned (.bool (P.safe 0 x u)) ∧ Below w.heap.size w w' := by
  obtain ⟨ap, cp, az, cz, g, h, nb, cn, b, rfl, hway, hn, hrow, hB⟩ := hc
  have HWAY : Hid (P.WayIs w (.agg #[.slice ap P.np cp, .slice az P.nz cz, .int .i64 P.train, .int .i64 P.fin, .int .i64 P.delay, .slice (some ⟨g, 0, none⟩) P.np P.np])) := hway
  have HROW : Hid (BRow w h nb b) := hrow
  have HB : Hid (P.Bounds nb b) := hB
  have HF : Hid P.Fit := hf
  obtain ⟨d0, d1⟩ := hf.delay
  obtain ⟨f0, f1⟩ := hf.fin
  have HC : Hid (∀ wr, Below w.heap.size w wr → P.CourseIs wr (.agg #[.slice ap P.np cp, .slice az P.nz cz, .int .i64 P.train, .int .i64 P.fin, .int .i64 P.delay, .slice (some ⟨g, 0, none⟩) P.np P.np, .slice (some ⟨h, 0, none⟩) nb cn])) := fun wr hb => ⟨ap, cp, az, cz, g, h, nb, cn, b, rfl, hway.below hb, hn, hrow.below hb, hB⟩
  clear hway hrow hB hf
  go_enter Try.func47, Try.ntmps47
  go_wp2_with (go_at_call 55; refine (isSpeed_yes _ _ hu0 hu1).mono ?_; rintro e w1 ⟨rfl, rfl⟩)
  have b1 : Below w.heap.size w (w.alloc (.cells #[.slice ap P.np cp, .slice az P.nz cz, .int .i64 P.train, .int .i64 P.fin, .int .i64 P.delay, .slice (some ⟨g, 0, none⟩) P.np P.np, .slice (some ⟨h, 0, none⟩) nb cn] 71)) := (Below.refl _ _).alloc (Nat.le_refl _) _
  have bx : P.CBox (w.alloc (.cells #[.slice ap P.np cp, .slice az P.nz cz, .int .i64 P.train, .int .i64 P.fin, .int .i64 P.delay, .slice (some ⟨g, 0, none⟩) P.np P.np, .slice (some ⟨h, 0, none⟩) nb cn] 71)) w.heap.size ap az cp cz g h nb cn := ⟨by go_simp, by go_simp, by go_simp, by go_simp, by go_simp, by go_simp, by go_simp⟩
  refine (sent_any P ap az cp cz g h nb cn x u _ d0 d1).mono ?_
  rintro e w2 ⟨rfl, hb2⟩
  have b2 := b1.trans (hb2.mono b1.size)
  have HX2 : Hid (P.CBox w2 w.heap.size ap az cp cz g h nb cn) := bx.below hb2
  unfold Prof.sent Tr.val
  dsimp only
  clear bx b1 hb2
  go_wp2
  go_loopw [8] (fun m wr => ∃ (k : Nat) (t : Tr) (n y z : Int), m = .int .i64 k ∧ k ≤ nb ∧ 0 ≤ n ∧ 0 ≤ y ∧ y ≤ 100000000 ∧ 0 ≤ z ∧ z ≤ 10000 ∧ (0 ≤ t.speed ∧ t.speed ≤ 10000) ∧ (0 ≤ t.at_ ∧ t.at_ ≤ 1000000000) ∧ (0 ≤ t.keeps ∧ t.keeps ≤ 21) ∧ Hid (P.tnext t = P.moved n y z) ∧ Hid (Done b k y z) ∧ Hid (P.safe n y z = P.safe 0 x u) ∧ Hid (wr.rowIs w2.heap.size 78 4 t.cell) ∧ Hid (P.CBox wr w.heap.size ap az cp cz g h nb cn) ∧ Below w.heap.size w wr) (fun _ wr => P.msr wr w2.heap.size)
  case atStart =>
    have hr := World.rowIs_alloc w2 #[.int .i64 u, .int .i64 x, .int .i64 x, .int .i64 (P.delay + 1)] 78 (Tr.cell ⟨u, x, x, P.delay + 1⟩) (fun i hi => by simp at hi; simp [Tr.cell, hi])
    exact ⟨0, P.sent x u, 0, x, u, rfl, Nat.zero_le _, Int.le_refl _, hx0, hx1, hu0, hu1, ⟨hu0, hu1⟩, ⟨hx0, by show x ≤ _; omega⟩, ⟨by show 0 ≤ P.delay + 1; omega, by show P.delay + 1 ≤ 21; omega⟩, P.tnext_sent d0 x u, Done.start, rfl, hr, HX2.out.below ((Below.refl _ _).alloc (Nat.le_refl _) _), b2.alloc b2.size _⟩
  case round =>
    have s2 := b2.size
    have q0 : w.heap.size < w2.heap.size := HX2.out.lt
    clear HX2 b2
    obtain ⟨B, hBt⟩ : ∃ B, w2.heap.size = B := ⟨_, rfl⟩
    rw [hBt] at hrel q0 s2 ⊢
    clear hBt
    obtain ⟨k, ⟨ts, tb, ta, tk⟩, n, y, z, rfl, hk, hn0, hy0, hy1, hz0, hz1, ⟨t0, t1⟩, ⟨t2, t3⟩, ⟨t4, t5⟩, HT, HD, HS, HR, HX, hbel⟩ := hrel
    dsimp only at t0 t1 t2 t3 t4 t5
    have hmv : Hid (Calls Try.prog 100 #[.agg #[.slice ap P.np cp, .slice az P.nz cz, .int .i64 P.train, .int .i64 P.fin, .int .i64 P.delay, .slice (some ⟨g, 0, none⟩) P.np P.np, .slice (some ⟨h, 0, none⟩) nb cn], .agg #[.int .i64 ts, .int .i64 tb, .int .i64 ta, .int .i64 tk]] wr fun e w' => e = .returned (.agg #[.int .i64 z, .int .i64 y, .int .i64 (y + z), .int .i64 (P.left n)]) ∧ Below wr.heap.size wr w') := by
      show Calls _ _ _ _ _
      have := next_any P _ ⟨ts, tb, ta, tk⟩ wr (HC.out wr hbel) HF.out t0 t1 t2 t3 t4 t5
      rw [HT.out] at this
      exact this
    have HM : Hid (P.msr wr B = (P.left n).toNat + z.toNat) := Prof.msr_of HR.out HT.out
    obtain ⟨x0, x1, x2, x3, x4, x5, x6⟩ := HX.out
    have u0 := HR.out.cell (i := 0) (by omega)
    have u1 := HR.out.cell (i := 1) (by omega)
    have u2 := HR.out.cell (i := 2) (by omega)
    have u3 := HR.out.cell (i := 3) (by omega)
    simp only [Tr.cell] at u0 u1 u2 u3
    go_wp2_with fail
    refine hmv.out.mono ?_
    rintro e w3 ⟨rfl, hb3⟩
    have b3 := hbel.trans (hb3.mono hbel.size)
    have HR3 : Hid (w3.rowIs B 78 4 (Tr.cell ⟨ts, tb, ta, tk⟩)) := rowIs_below HR.out hb3
    have HX3 : Hid (P.CBox w3 w.heap.size ap az cp cz g h nb cn) := HX.out.below hb3
    clear x0 x1 x2 x3 x4 x5 x6 u0 u1 u2 u3 hb3 HX HR hmv HT t0 t1 t2 t3 t4 t5 hbel
    have u0 := HR3.out.cell (i := 0) (by omega)
    have u1 := HR3.out.cell (i := 1) (by omega)
    have u2 := HR3.out.cell (i := 2) (by omega)
    have u3 := HR3.out.cell (i := 3) (by omega)
    have uf := HR3.out.frozen
    simp only [Tr.cell] at u0 u1 u2 u3
    go_wp2
    generalize hW4 : (((w3.setCell _ _).setCell _ _).setCell _ _).setCell _ _ = W4
    have HR4 : Hid (W4.rowIs B 78 4 (Tr.cell ⟨z, y, y + z, P.left n⟩)) := by subst hW4; exact tr_set HR3.out _ _ _ _
    have bq4 : Below B w3 W4 := by
      subst hW4
      iterate 4 refine Below.setCell ?_ (by simp) _
      exact Below.refl _ _
    have b4 : Below w.heap.size w W4 := b3.trans (bq4.mono s2)
    have HX4 : Hid (P.CBox W4 w.heap.size ap az cp cz g h nb cn) := HX3.out.below' q0 bq4
    clear hW4 u0 u1 u2 u3 uf HR3 HX3 bq4 b3
    go_loopw [8] (fun m wq => ∃ j : Nat, m = .int .i64 j ∧ j ≤ nb ∧ Hid (Done b j y z) ∧ Hid (Below W4.heap.size W4 wq)) (fun m _ => nb - (intOf m).toNat)
    case atStart => exact ⟨k, rfl, hk, HD, Below.refl _ _⟩
    case round =>
      obtain ⟨j, rfl, hj, HDj, HQ⟩ := hrel
      have hjn : j < nb := HB.out.left HDj.out hj hz0 hy1
      have hjI : (j : Int) < (nb : Int) := by omega
      have bq : Below w.heap.size w wr := b4.trans (HQ.out.mono b4.size)
      obtain ⟨c0, c1, c2⟩ := (HROW.out.below bq).2 j hjn
      obtain ⟨bf, bu, bm, eb⟩ : ∃ bf bu bm, b j = (bf, bu, bm) := ⟨_, _, _, rfl⟩
      have EB : Hid (b j = (bf, bu, bm)) := eb
      rw [eb] at c0 c1 c2
      dsimp only at c0 c1 c2
      obtain ⟨x0, x1, x2, x3, x4, x5, x6⟩ := HX4.out.below HQ.out
      have HRq : Hid (wr.rowIs B 78 4 (Tr.cell ⟨z, y, y + z, P.left n⟩)) := rowIs_below HR4.out HQ.out
      have u0 := HRq.out.cell (i := 0) (by omega)
      have u1 := HRq.out.cell (i := 1) (by omega)
      have u2 := HRq.out.cell (i := 2) (by omega)
      have u3 := HRq.out.cell (i := 3) (by omega)
      simp only [Tr.cell] at u0 u1 u2 u3
      clear eb x0 x1 x2 x3 x4 x5
      by_cases h1 : bf ≤ y + z
      · go_wp2_with fail
        go_quiet (fail)
        go_wp2_with fail
        by_cases h2 : y ≤ bu
        · by_cases h3 : bm < z
          · have HE : Hid (P.safe 0 x u = false) := by
              show _ = _
              rw [← HS.out]
              refine Prof.safe_no (HB.out.no HF.out hjn hz0 hz1 hy1 ?_)
              rw [EB.out]
              exact ⟨h1, h2, h3⟩
            go_quiet (fail)
            go_wp2
            go_ret
            exact ⟨ret_bool HE.out.symm, below_drewN (below_drewN bq _) _⟩
          · have h3' : decide (bm < z) = false := by simpa using h3
            have HDn : Hid (Done b (j + 1) y z) := HDj.out.more (by rw [EB.out]; dsimp only; omega)
            go_quiet (fail)
            go_wp2
            go_roundw
            case rel => exact ⟨j + 1, by go_num, by omega, HDn.out, below_drewN HQ.out _⟩
            case measure => simp [intOf]; omega
        · have h2' : decide (y ≤ bu) = false := by simpa using h2
          have HDn : Hid (Done b (j + 1) y z) := HDj.out.more (by rw [EB.out]; dsimp only; omega)
          go_quiet (fail)
          go_wp2
          go_roundw
          case rel => exact ⟨j + 1, by go_num, by omega, HDn.out, below_drewN HQ.out _⟩
          case measure => simp [intOf]; omega
      · have h1' : decide (bf ≤ y + z) = false := by simpa using h1
        have HMay : Hid (P.may y z = true) := HB.out.yes HF.out HDj.out hjn hz0 hz1 hy1 (by rw [EB.out]; dsimp only; omega)
        by_cases hz : z = 0
        · have HE : Hid (P.safe 0 x u = true) := by
            show _ = _
            rw [← HS.out, hz]
            exact Prof.safe_stand (by have := HMay.out; rwa [hz] at this)
          go_wp2_with fail
          go_quiet (fail)
          go_wp2
          go_ret
          exact ⟨ret_bool HE.out.symm, below_drewN bq _⟩
        · have hz' : (z == 0) = false := by simpa using hz
          have hfe := Prof.may_end HMay.out
          have rP : ∀ x, 1 ≤ P.rate x := fun x => (HF.out.rate x).1
          have HSn : Hid (P.safe (n + 1) (y + z) (P.next n y z) = P.safe 0 x u) := by
            show _ = _
            rw [← HS.out]
            exact (P.safe_go rP HMay.out (by omega)).symm
          obtain ⟨n0, n1⟩ := P.next_bounds rP (n := n) (x := y) (v := z) hz0
          obtain ⟨l0, l1⟩ := P.left_in d0 d1 hn0
          have HL : Hid ((P.left (n + 1)).toNat + (P.next n y z).toNat < (P.left n).toNat + z.toNat) := P.left_less rP (by omega)
          clear rP
          go_wp2_with fail
          go_quiet (fail)
          go_wp2
          go_roundw
          case rel => exact ⟨j, P.moved n y z, n + 1, y + z, P.next n y z, rfl, hj, by omega, by omega, by omega, n0, by omega, ⟨hz0, hz1⟩, ⟨by show 0 ≤ y + z; omega, by show y + z ≤ _; omega⟩, ⟨l0, l1⟩, P.tnext_moved n y z, HDj.out.step (by omega) n1, HSn.out, rowIs_below HRq.out (below_drewN (Below.refl _ _) _), HX4.out.below (below_drewN HQ.out _), below_drewN bq _⟩
          case measure =>
            rw [HM.out, Prof.msr_of (rowIs_below HRq.out (below_drewN (Below.refl _ _) _)) (P.tnext_moved n y z)]
            exact HL.out

theorem isSafe_any (P : Prof) (v : Value) (x u : Int) (w : World) (hc : P.CourseIs w v) (hf : P.Fit) (hx0 : 0 ≤ x) (hx1 : x ≤ 100000000) :
    Calls Try.prog 47 #[v, .int .i64 x, .int .i64 u] w fun e w' => e = .returned (.bool (P.isSafe x u)) ∧ Below w.heap.size w w' := by
  by_cases h : 0 ≤ u ∧ u ≤ 10000
  · have e : P.isSafe x u = P.safe 0 x u := by unfold Prof.isSafe; rw [decide_eq_true h]; simp
    rw [e]
    exact isSafe_go P v x u w hc hf hx0 hx1 h.1 h.2
  · exact isSafe_no P v x u w hc (by omega)

end Go.Proofs.Yteodefmpkljedaa
