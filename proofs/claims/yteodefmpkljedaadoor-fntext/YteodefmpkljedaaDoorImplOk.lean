/-
  The program's ProfileOk: the first fault.
-/
import Derived.Test.YteodefmpkljedaaDoorImplWay
namespace Go.Proofs.YteodefmpkljedaaDoor
open Go.RowKit Go.Sort
set_option linter.unusedVariables false

def ZoneOk (tot f t s : Int) : Prop := (0 ≤ f ∧ f ≤ tot) ∧ (f ≤ t ∧ t ≤ tot) ∧ (1 ≤ s ∧ s ≤ 10000)

set_option maxHeartbeats 2000000 in
theorem isWrongZone_no (P : Prof) (v : Value) (f t s : Int) (w : World) (hl : P.WayIs w v) (h1 : 1 ≤ P.np) (h : ZoneOk P.total f t s) :
    Calls Tryd.prog 31 #[v, .agg #[.int .i64 f, .int .i64 t, .int .i64 s]] w fun e w' => e = .returned (.bool false) ∧ Below w.heap.size w w' := by
  have HW : Hid (P.WayIs w v) := hl
  obtain ⟨ap, cp, az, cz, g, rfl, hn, hn', hr2, hr3, hrow⟩ := hl
  clear hr2 hr3 hrow
  obtain ⟨⟨f0, f1⟩, ⟨t0, t1⟩, s0, s1⟩ := h
  have g3 : decide (t < f) = false := by simp; omega
  have g4 : decide (s < 1) = false := by simp; omega
  have g5 : decide (10000 < s) = false := by simp; omega
  go_enter Tryd.func31, Tryd.ntmps31
  go_wp2_with fail
  generalize hW : (w.alloc _).alloc _ = W
  have bW : Below w.heap.size w W := by rw [← hW]; exact ((Below.refl _ _).alloc (Nat.le_refl _) _).alloc (by simp) _
  have sW : w.heap.size + 2 ≤ W.heap.size := by rw [← hW]; simp
  have x0 : W.cell? ⟨w.heap.size, 0, none⟩ = some (.slice ap P.np cp) := by subst hW; go_simp
  have x1 : W.cell? ⟨w.heap.size, 1, none⟩ = some (.slice az P.nz cz) := by subst hW; go_simp
  have x2 : W.cell? ⟨w.heap.size, 2, none⟩ = some (.int .i64 P.train) := by subst hW; go_simp
  have x3 : W.cell? ⟨w.heap.size, 3, none⟩ = some (.int .i64 P.fin) := by subst hW; go_simp
  have x4 : W.cell? ⟨w.heap.size, 4, none⟩ = some (.int .i64 P.delay) := by subst hW; go_simp
  have x5 : W.cell? ⟨w.heap.size, 5, none⟩ = some (.slice (some ⟨g, 0, none⟩) P.np P.np) := by subst hW; go_simp
  have y0 : W.cell? ⟨w.heap.size + 1, 0, none⟩ = some (.int .i64 f) := by subst hW; go_simp
  have y1 : W.cell? ⟨w.heap.size + 1, 1, none⟩ = some (.int .i64 t) := by subst hW; go_simp
  have y2 : W.cell? ⟨w.heap.size + 1, 2, none⟩ = some (.int .i64 s) := by subst hW; go_simp
  clear hW
  refine (isPlace_yes P _ _ _ (HW.out.below bW) h1 (by omega) (by omega)).mono ?_
  rintro e w1 ⟨rfl, hb1⟩
  have b1 := bW.trans (hb1.mono bW.size)
  have l0 : w.heap.size < W.heap.size := by omega
  have l1 : w.heap.size + 1 < W.heap.size := by omega
  replace x0 := (hb1.cell (p := ⟨w.heap.size, 0, none⟩) l0).trans x0
  replace x1 := (hb1.cell (p := ⟨w.heap.size, 1, none⟩) l0).trans x1
  replace x2 := (hb1.cell (p := ⟨w.heap.size, 2, none⟩) l0).trans x2
  replace x3 := (hb1.cell (p := ⟨w.heap.size, 3, none⟩) l0).trans x3
  replace x4 := (hb1.cell (p := ⟨w.heap.size, 4, none⟩) l0).trans x4
  replace x5 := (hb1.cell (p := ⟨w.heap.size, 5, none⟩) l0).trans x5
  replace y0 := (hb1.cell (p := ⟨w.heap.size + 1, 0, none⟩) l1).trans y0
  replace y1 := (hb1.cell (p := ⟨w.heap.size + 1, 1, none⟩) l1).trans y1
  replace y2 := (hb1.cell (p := ⟨w.heap.size + 1, 2, none⟩) l1).trans y2
  have s1' := hb1.size
  clear bW
  go_wp2_with fail
  refine (isPlace_yes P _ _ _ (HW.out.below b1) h1 (by omega) (by omega)).mono ?_
  rintro e w2 ⟨rfl, hb2⟩
  have b2 := b1.trans (hb2.mono b1.size)
  have m1 : w.heap.size + 1 < w1.heap.size := by omega
  replace y0 := (hb2.cell (p := ⟨w.heap.size + 1, 0, none⟩) m1).trans y0
  replace y1 := (hb2.cell (p := ⟨w.heap.size + 1, 1, none⟩) m1).trans y1
  replace y2 := (hb2.cell (p := ⟨w.heap.size + 1, 2, none⟩) m1).trans y2
  clear x0 x1 x2 x3 x4 x5 hb1 hb2
  go_wp2
  go_ret
  exact ⟨by simp, b2⟩

set_option maxHeartbeats 2000000 in
theorem isWrongZone_yes (P : Prof) (v : Value) (f t s : Int) (w : World) (hl : P.WayIs w v) (h1 : 1 ≤ P.np) (h : ¬ ZoneOk P.total f t s) :
    Calls Tryd.prog 31 #[v, .agg #[.int .i64 f, .int .i64 t, .int .i64 s]] w fun e w' => e = .returned (.bool true) ∧ Below w.heap.size w w' := by
  have HW : Hid (P.WayIs w v) := hl
  obtain ⟨ap, cp, az, cz, g, rfl, hn, hn', hr2, hr3, hrow⟩ := hl
  clear hr2 hr3 hrow
  unfold ZoneOk at h
  go_enter Tryd.func31, Tryd.ntmps31
  go_wp2_with fail
  generalize hW : (w.alloc _).alloc _ = W
  have bW : Below w.heap.size w W := by rw [← hW]; exact ((Below.refl _ _).alloc (Nat.le_refl _) _).alloc (by simp) _
  have sW : w.heap.size + 2 ≤ W.heap.size := by rw [← hW]; simp
  have x0 : W.cell? ⟨w.heap.size, 0, none⟩ = some (.slice ap P.np cp) := by subst hW; go_simp
  have x1 : W.cell? ⟨w.heap.size, 1, none⟩ = some (.slice az P.nz cz) := by subst hW; go_simp
  have x2 : W.cell? ⟨w.heap.size, 2, none⟩ = some (.int .i64 P.train) := by subst hW; go_simp
  have x3 : W.cell? ⟨w.heap.size, 3, none⟩ = some (.int .i64 P.fin) := by subst hW; go_simp
  have x4 : W.cell? ⟨w.heap.size, 4, none⟩ = some (.int .i64 P.delay) := by subst hW; go_simp
  have x5 : W.cell? ⟨w.heap.size, 5, none⟩ = some (.slice (some ⟨g, 0, none⟩) P.np P.np) := by subst hW; go_simp
  have y0 : W.cell? ⟨w.heap.size + 1, 0, none⟩ = some (.int .i64 f) := by subst hW; go_simp
  have y1 : W.cell? ⟨w.heap.size + 1, 1, none⟩ = some (.int .i64 t) := by subst hW; go_simp
  have y2 : W.cell? ⟨w.heap.size + 1, 2, none⟩ = some (.int .i64 s) := by subst hW; go_simp
  clear hW
  by_cases q1 : 0 ≤ f ∧ f ≤ P.total
  · refine (isPlace_yes P _ _ _ (HW.out.below bW) h1 (by omega) (by omega)).mono ?_
    rintro e w1 ⟨rfl, hb1⟩
    have b1 := bW.trans (hb1.mono bW.size)
    have l0 : w.heap.size < W.heap.size := by omega
    have l1 : w.heap.size + 1 < W.heap.size := by omega
    replace x0 := (hb1.cell (p := ⟨w.heap.size, 0, none⟩) l0).trans x0
    replace x1 := (hb1.cell (p := ⟨w.heap.size, 1, none⟩) l0).trans x1
    replace x2 := (hb1.cell (p := ⟨w.heap.size, 2, none⟩) l0).trans x2
    replace x3 := (hb1.cell (p := ⟨w.heap.size, 3, none⟩) l0).trans x3
    replace x4 := (hb1.cell (p := ⟨w.heap.size, 4, none⟩) l0).trans x4
    replace x5 := (hb1.cell (p := ⟨w.heap.size, 5, none⟩) l0).trans x5
    replace y0 := (hb1.cell (p := ⟨w.heap.size + 1, 0, none⟩) l1).trans y0
    replace y1 := (hb1.cell (p := ⟨w.heap.size + 1, 1, none⟩) l1).trans y1
    replace y2 := (hb1.cell (p := ⟨w.heap.size + 1, 2, none⟩) l1).trans y2
    have s1' := hb1.size
    clear bW
    go_wp2_with fail
    by_cases q2 : 0 ≤ t ∧ t ≤ P.total
    · refine (isPlace_yes P _ _ _ (HW.out.below b1) h1 (by omega) (by omega)).mono ?_
      rintro e w2 ⟨rfl, hb2⟩
      have b2 := b1.trans (hb2.mono b1.size)
      have m1 : w.heap.size + 1 < w1.heap.size := by omega
      replace y0 := (hb2.cell (p := ⟨w.heap.size + 1, 0, none⟩) m1).trans y0
      replace y1 := (hb2.cell (p := ⟨w.heap.size + 1, 1, none⟩) m1).trans y1
      replace y2 := (hb2.cell (p := ⟨w.heap.size + 1, 2, none⟩) m1).trans y2
      clear x0 x1 x2 x3 x4 x5 hb1 hb2
      by_cases q3 : t < f
      · clear h
        go_wp2
        go_ret
        exact ⟨by simp, b2⟩
      · have g3 : decide (t < f) = false := by simpa using q3
        by_cases q4 : s < 1
        · clear h
          go_wp2
          go_ret
          exact ⟨by simp, b2⟩
        · have g4 : decide (s < 1) = false := by simpa using q4
          have q5 : 10000 < s := by omega
          clear h
          go_wp2
          go_ret
          exact ⟨by simp, b2⟩
    · refine (isPlace_no P _ _ _ (HW.out.below b1) h1 (by omega)).mono ?_
      rintro e w2 ⟨rfl, hb2⟩
      have b2 := b1.trans (hb2.mono b1.size)
      clear x0 x1 x2 x3 x4 x5 hb1 hb2 h
      go_wp2
      go_ret
      exact ⟨by simp, b2⟩
  · refine (isPlace_no P _ _ _ (HW.out.below bW) h1 (by omega)).mono ?_
    rintro e w2 ⟨rfl, hb2⟩
    have b2 := bW.trans (hb2.mono bW.size)
    clear x0 x1 x2 x3 x4 x5 hb2 h
    go_wp2
    go_ret
    exact ⟨by simp, b2⟩

set_option maxHeartbeats 1000000 in
theorem indexZones_any (P : Prof) (v : Value) (a : Option Addr) (n c : Nat) (F T S : Nat → Int) (w : World) (hl : P.WayIs w v) (h1 : 1 ≤ P.np) (hr : Row3 w a n F T S) (hn : n ≤ 60) :
    Calls Tryd.prog 48 #[.slice a n c, .func (.func 31) #[v] #[]] w fun e w' => ∃ i : Int, e = .returned (.int .i64 i) ∧ ((i = -1 ∧ ∀ j, j < n → ZoneOk P.total (F j) (T j) (S j)) ∨ (0 ≤ i ∧ ¬ ∀ j, j < n → ZoneOk P.total (F j) (T j) (S j))) ∧ Below w.heap.size w w' := by
  have HR : Hid (Row3 w a n F T S) := hr
  have HW : Hid (P.WayIs w v) := hl
  clear hr hl
  go_enter Tryd.func48, Tryd.ntmps48
  go_wp2
  go_loopw [8] (fun i wr => ∃ k : Nat, k ≤ n ∧ i = .int .i64 k ∧ Hid (∀ j, j < k → ZoneOk P.total (F j) (T j) (S j)) ∧ Below w.heap.size w wr) (fun i _ => n - (intOf i).toNat)
  case atStart => exact ⟨0, Nat.zero_le _, rfl, fun j hj => by omega, Below.refl _ _⟩
  case round =>
    obtain ⟨k, hk, rfl, HK, hbel⟩ := hrel
    by_cases hlt : k < n
    · rcases HR.out with h0 | ⟨b, off, rfl, hb, hc⟩
      · omega
      · have c0 : wr.cell? ⟨b, off + k * 3, none⟩ = some (.int .i64 (F k)) := by rw [hbel.cell hb]; exact (hc k hlt).1
        have c1 : wr.cell? ⟨b, off + k * 3 + 1, none⟩ = some (.int .i64 (T k)) := by rw [hbel.cell hb]; exact (hc k hlt).2.1
        have c2 : wr.cell? ⟨b, off + k * 3 + 2, none⟩ = some (.int .i64 (S k)) := by rw [hbel.cell hb]; exact (hc k hlt).2.2
        clear hc
        by_cases q : ZoneOk P.total (F k) (T k) (S k)
        · have HQ : Hid (ZoneOk P.total (F k) (T k) (S k)) := q
          clear q
          go_wp2_with (go_at_call 31; refine (isWrongZone_no P _ _ _ _ _ (HW.out.below hbel) h1 HQ.out).mono ?_; rintro e w2 ⟨rfl, hb2⟩)
          go_roundw
          case rel =>
            refine ⟨k + 1, by omega, by go_num, fun j hj => ?_, hbel.trans (hb2.mono hbel.size)⟩
            by_cases c : j < k
            · exact HK.out j c
            · have : j = k := by omega
              subst this; exact HQ.out
          case measure => simp [intOf]; omega
        · have HQ : Hid (¬ ZoneOk P.total (F k) (T k) (S k)) := q
          clear q
          go_wp2_with (go_at_call 31; refine (isWrongZone_yes P _ _ _ _ _ (HW.out.below hbel) h1 HQ.out).mono ?_; rintro e w2 ⟨rfl, hb2⟩)
          go_ret
          exact ⟨_, ret_int rfl, Or.inr ⟨by omega, fun h => HQ.out (h k hlt)⟩, hbel.trans (hb2.mono hbel.size)⟩
    · have e : k = n := by omega
      subst e
      go_wp2
      go_ret
      exact ⟨_, ret_int rfl, Or.inl ⟨rfl, HK.out⟩, hbel⟩

set_option maxHeartbeats 1000000 in
theorem containsZones_no (P : Prof) (v : Value) (a : Option Addr) (n c : Nat) (F T S : Nat → Int) (w : World) (hl : P.WayIs w v) (h1 : 1 ≤ P.np) (hr : Row3 w a n F T S) (hn : n ≤ 60) (h : ∀ j, j < n → ZoneOk P.total (F j) (T j) (S j)) :
    Calls Tryd.prog 30 #[.slice a n c, .func (.func 31) #[v] #[]] w fun e w' => e = .returned (.bool false) ∧ Below w.heap.size w w' := by
  have HR : Hid (P.WayIs w v ∧ Row3 w a n F T S ∧ ∀ j, j < n → ZoneOk P.total (F j) (T j) (S j)) := ⟨hl, hr, h⟩
  clear hr h hl
  go_enter Tryd.func30, Tryd.ntmps30
  go_wp2_with (go_at_call 48; refine (indexZones_any P _ _ _ _ F T S _ HR.out.1 h1 HR.out.2.1 hn).mono ?_; rintro e w2 ⟨i, rfl, hi, hb2⟩; obtain rfl : i = -1 := hi.elim (fun h => h.1) (fun h => absurd HR.out.2.2 h.2))
  go_ret
  exact ⟨by simp, hb2⟩

set_option maxHeartbeats 1000000 in
theorem containsZones_yes (P : Prof) (v : Value) (a : Option Addr) (n c : Nat) (F T S : Nat → Int) (w : World) (hl : P.WayIs w v) (h1 : 1 ≤ P.np) (hr : Row3 w a n F T S) (hn : n ≤ 60) (h : ¬ ∀ j, j < n → ZoneOk P.total (F j) (T j) (S j)) :
    Calls Tryd.prog 30 #[.slice a n c, .func (.func 31) #[v] #[]] w fun e w' => e = .returned (.bool true) ∧ Below w.heap.size w w' := by
  have HR : Hid (P.WayIs w v ∧ Row3 w a n F T S ∧ ¬ ∀ j, j < n → ZoneOk P.total (F j) (T j) (S j)) := ⟨hl, hr, h⟩
  clear hr h hl
  go_enter Tryd.func30, Tryd.ntmps30
  go_wp2_with (go_at_call 48; refine (indexZones_any P _ _ _ _ F T S _ HR.out.1 h1 HR.out.2.1 hn).mono ?_; rintro e w2 ⟨i, rfl, hi, hb2⟩; have hi0 : 0 ≤ i := hi.elim (fun h => absurd h.2 HR.out.2.2) (fun h => h.1); clear hi)
  go_ret
  exact ⟨by simp, hb2⟩

end Go.Proofs.YteodefmpkljedaaDoor
