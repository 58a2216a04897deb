/-
  The model of Watch: a train that is watched.
-/
import Derived.Test.YteodefmpkljedaaSpecWatch
import Derived.Deep.Heap
namespace Go.Proofs.Yteodefmpkljedaa
open Go.RowKit Go.Sort
set_option linter.unusedVariables false
set_option linter.unusedSimpArgs false

theorem alloc_add1 (w : World) (x : Value) (t : TypeId) (s : Nat) (h : w.heap.size = s) : ∀ j u, [x][j]? = some u → (w.alloc (.cells #[x] t)).cell? ((⟨s, 0, none⟩ : Addr).add j) = some u := by
  subst h
  intro j u hj
  match j, hj with
  | 0, hj => simp at hj; subst hj; simp [Addr.add]
theorem watch_set (w : World) (B i : Nat) (v : Value) : w.grownBy (w.setCell ⟨B, i, none⟩ v) (some B) := by
  refine ⟨rfl, rfl, rfl, by simp, fun k hk hne => ?_⟩
  have hne' : k ≠ B := fun e => hne (by rw [e])
  exact Go.Deep.blk_setCell_other w ⟨B, i, none⟩ v k hne'
theorem watch_row {w w1 : World} {row : Option Nat} {g t n : Nat} {f : Nat → Value} (h : w.rowIs g t n f) (hg : w.grownBy w1 row) (hr : some g ≠ row) : w1.rowIs g t n f := h.of_block (hg.block g h.lt hr)
theorem watch_box {P : Prof} {w w1 : World} {row : Option Nat} {n : Nat} {ap az : Option Addr} {cp cz : Nat} (h : P.BoxAt w n ap az cp cz) (hg : w.grownBy w1 row) (hr : some n ≠ row) : P.BoxAt w1 n ap az cp cz := by
  obtain ⟨h0, h1, h2, h3, h4⟩ := h
  exact ⟨hg.cell h0 hr, hg.cell h1 hr, hg.cell h2 hr, hg.cell h3 hr, hg.cell h4 hr⟩
theorem watch_base {w : World} {base base' e size n : Nat} {v : Value} {xs : List Value} (h : w.ownsRow base e size v n xs) (hb : base' ≤ base) : w.ownsRow base' e size v n xs := by
  obtain ⟨h1, h2⟩ := h
  refine ⟨h1, ?_⟩
  rcases h2 with h2 | ⟨g, cap, cur, h2, h3, h4⟩
  · exact Or.inl h2
  · exact Or.inr ⟨g, cap, cur, h2, by omega, h4⟩
/-- What holds while a train is watched: the result's block, the variable's, the speeds' row, the profile's. -/
def WS (P : Prof) (w y : World) (Ob : Nat) (ap az : Option Addr) (cp cz : Nat) (sv : Value) (k : Nat) (xs : List Value) (br : Int) : Prop :=
  y.rowIs (w.heap.size + 1) 31 4 (w4 false (.slice none 0 0) 0 0) ∧ y.rowIs Ob 31 4 (w4 true sv br 0) ∧ y.ownsRow (Ob + 1) 3 1 sv k xs ∧ P.BoxAt y w.heap.size ap az cp cz ∧ Below w.heap.size w y
theorem WS.below {P : Prof} {w y y1 : World} {Ob : Nat} {ap az : Option Addr} {cp cz : Nat} {sv : Value} {k : Nat} {xs : List Value} {br : Int} (h : WS P w y Ob ap az cp cz sv k xs br) (hb : Below y.heap.size y y1) : WS P w y1 Ob ap az cp cz sv k xs br := by
  obtain ⟨o1, o2, o3, o4, o5⟩ := h
  exact ⟨rowIs_below o1 hb, rowIs_below o2 hb, ownsRow_below o3 hb, o4.below hb, o5.trans (hb.mono o5.size)⟩
/-- Braked once more. -/
theorem WS.brake {P : Prof} {w y : World} {Ob : Nat} {ap az : Option Addr} {cp cz : Nat} {sv : Value} {k : Nat} {xs : List Value} {br : Int} (h : WS P w y Ob ap az cp cz sv k xs br) (hO : w.heap.size + 1 < Ob) (b : Int) : WS P w (y.setCell ⟨Ob, 2, none⟩ (.int .i64 b)) Ob ap az cp cz sv k xs b := by
  obtain ⟨o1, o2, o3, o4, o5⟩ := h
  have gs := watch_set y Ob 2 (.int .i64 b)
  refine ⟨o1.setOther (by show w.heap.size + 1 ≠ Ob; omega) _, (o2.set 2 _).congr (cases4 rfl rfl rfl rfl), owned_grown o3 gs (fun j e he => by have h1 := ownsRow_block o3 j he; have h2 := Option.some.inj e; omega), watch_box o4 gs (fun e => by have h2 := Option.some.inj e; omega), o5.setCell (by show w.heap.size ≤ Ob; omega) _⟩
/-- A speed more. -/
theorem WS.push {P : Prof} {w y y1 : World} {Ob : Nat} {ap az : Option Addr} {cp cz : Nat} {sv sv' : Value} {k : Nat} {xs xs' : List Value} {br : Int} (h : WS P w y Ob ap az cp cz sv k xs br) (hO : w.heap.size + 1 < Ob) (o : Obj) (hg : (y.alloc o).grownBy y1 sv.ownBlock) (hown : y1.ownsRow (Ob + 1) 3 1 sv' (k + 1) xs') :
    y1.rowIs Ob 31 4 (w4 true sv br 0) ∧ WS P w (y1.setCell ⟨Ob, 1, none⟩ sv') Ob ap az cp cz sv' (k + 1) xs' br := by
  obtain ⟨o1, o2, o3, o4, o5⟩ := h
  have hob := ownsRow_block o3
  have p1 := watch_row (o1.alloc o) hg (fun e => by have := hob _ e.symm; omega)
  have p2 := watch_row (o2.alloc o) hg (fun e => by have := hob _ e.symm; omega)
  have p4 := watch_box (o4.below ((Below.refl _ _).alloc (Nat.le_refl _) o)) hg (fun e => by have := hob _ e.symm; omega)
  have p5 := (o5.alloc o5.size o).grown hg (by have := o5.size; simp; omega) (fun j e => by have := hob _ e; omega)
  have gs := watch_set y1 Ob 1 sv'
  exact ⟨p2, p1.setOther (by show w.heap.size + 1 ≠ Ob; omega) _, (p2.set 1 _).congr (cases4 rfl rfl rfl rfl), owned_grown hown gs (fun j e he => by have h1 := ownsRow_block hown j he; have h2 := Option.some.inj e; omega), watch_box p4 gs (fun e => by have h2 := Option.some.inj e; omega), p5.setCell (by show w.heap.size ≤ Ob; omega) _⟩

set_option maxRecDepth 20000 in
set_option maxHeartbeats 80000000 in
theorem specWatch_yes (P : Prof) (v : Value) (x u : Int) (a : Option Addr) (n c : Nat) (z : Nat → Int) (w : World) (hl : P.Lies w v) (hz : Row1 w a n z) (h : P.watchable n x u = true) :
    Calls Try.prog 16 #[v, .int .i64 x, .int .i64 u, .slice a n c] w fun e w' => ∃ v', e = .returned (.agg #[.bool true, v', .int .i64 (P.wst x u z n).braked, .int .i64 (P.wst x u z n).x]) ∧ w'.ownsRow (w.heap.size + 1) 3 1 v' n (singles (P.wSpeed x u z) n) ∧ Below w.heap.size w w' := by
  have HV : Hid (P.Lies w v) := hl
  have HZ : Hid (Row1 w a n z) := hz
  obtain ⟨i0, hi, hz0, hz1, hz2⟩ := info_parts Try.infoIntW
  obtain ⟨h5, hg, hs⟩ : n ≤ 500 ∧ P.good x u = true ∧ P.safe 0 x u = true := by
    unfold Prof.watchable at h
    simpa using h
  obtain ⟨⟨hok, g0, g1⟩, g2, g3⟩ := Prof.good_with hg
  have HOK : Hid P.Ok := hok
  have htot := (Prof.total_bounds hok.lens).2
  have hfin := hok.fin.2
  have hnp1 := hok.counts.1
  obtain ⟨d0, d1⟩ := hok.delay
  have HI : Hid (∀ k, P.WInv x k (P.wst x u z k)) := Prof.wst_inv hok.rates z g0 g2 g3 hs
  have HG : Hid (P.good x u = true ∧ P.safe 0 x u = true) := ⟨hg, hs⟩
  obtain ⟨ap, cp, az, cz, rfl, hnp, hnz, hr2, hr3⟩ := hl
  have h5' : decide (500 < (n : Int)) = false := by simp; omega
  clear hr2 hr3 hz h hg hs hok
  go_enter Try.func16, Try.ntmps16
  go_wp2_with fail
  generalize hW : (w.alloc _).alloc _ = W
  have bW : Below w.heap.size w W := by rw [← hW]; exact ((Below.refl _ _).alloc (Nat.le_refl _) _).alloc (by simp) _
  have sW : W.heap.size = w.heap.size + 2 := by rw [← hW]; simp
  have hbox : P.BoxAt W w.heap.size ap az cp cz := by subst hW; exact ⟨by go_simp, by go_simp, by go_simp, by go_simp, by go_simp⟩
  have rR : W.rowIs (w.heap.size + 1) 31 4 (w4 false (.slice none 0 0) 0 0) := by
    have := World.rowIs_alloc (w.alloc (.cells #[.slice ap P.np cp, .slice az P.nz cz, .int .i64 P.train, .int .i64 P.fin, .int .i64 P.delay] 26)) #[.bool false, .slice none 0 0, .int .i64 0, .int .i64 0] 31 (w4 false (.slice none 0 0) 0 0) (fun i hi => by simp at hi; match i, hi with | 0, _ => rfl | 1, _ => rfl | 2, _ => rfl | 3, _ => rfl)
    rw [World.size_alloc] at this
    rw [← hW]; exact this
  clear hW
  refine (l3good_any P _ x u _ (HV.out.below bW)).mono ?_
  rintro e w1 ⟨rfl, hb1⟩
  rw [HG.out.1]
  have b1 := bW.trans (hb1.mono bW.size)
  have s1 := hb1.size
  have H1 : Hid (w1.rowIs (w.heap.size + 1) 31 4 (w4 false (.slice none 0 0) 0 0) ∧ P.BoxAt w1 w.heap.size ap az cp cz) := ⟨rowIs_below rR hb1, hbox.below hb1⟩
  obtain ⟨x0, x1, x2, x3, x4⟩ := H1.out.2
  clear hb1 bW hbox rR
  go_wp2_with fail
  refine (l3safe_any P _ x u _ (HV.out.below b1) HOK.out g0 (by omega) g2 g3).mono ?_
  rintro e w2 ⟨rfl, hb2⟩
  rw [HG.out.2]
  have b2 := b1.trans (hb2.mono b1.size)
  have s2 := hb2.size
  have H2 : Hid (w2.rowIs (w.heap.size + 1) 31 4 (w4 false (.slice none 0 0) 0 0) ∧ P.BoxAt w2 w.heap.size ap az cp cz) := ⟨rowIs_below H1.out.1 hb2, H1.out.2.below hb2⟩
  clear x0 x1 x2 x3 x4 hb2 H1
  go_wp2
  obtain ⟨Ob, hOb⟩ : ∃ Ob, w2.heap.size = Ob := ⟨_, rfl⟩
  have H3 : Hid (WS P w (w2.alloc (.cells #[.bool true, .slice none 0 0, .int .i64 0, .int .i64 0] 31)) Ob ap az cp cz (.slice none 0 0) 0 [] 0) := by
    refine ⟨H2.out.1.alloc _, ?_, World.ownsRow_nil _ _ _ _, H2.out.2.below ((Below.refl _ _).alloc (Nat.le_refl _) _), b2.alloc b2.size _⟩
    have := World.rowIs_alloc w2 #[.bool true, .slice none 0 0, .int .i64 0, .int .i64 0] 31 (w4 true (.slice none 0 0) 0 0) (fun i hi => by simp at hi; match i, hi with | 0, _ => rfl | 1, _ => rfl | 2, _ => rfl | 3, _ => rfl)
    rw [hOb] at this
    exact this
  have hO : w.heap.size + 1 < Ob := by omega
  rw [hOb]
  go_loopw [1, 2, 10, 11, 36] (fun sx sv sw sn si wr => ∃ (k : Nat) (vv : Value), k ≤ n ∧ sx = .int .i64 (P.wst x u z k).x ∧ sv = .int .i64 (P.wst x u z k).v ∧ sw = .int .i64 (P.wst x u z k).was ∧ sn = .int .i64 (P.wst x u z k).n ∧ si = .int .i64 k ∧ Ob < wr.heap.size ∧ Hid (WS P w wr Ob ap az cp cz vv k (singles (P.wSpeed x u z) k) (P.wst x u z k).braked)) (fun _ _ _ _ si _ => n - (intOf si).toNat)
  case atStart => exact ⟨0, _, by omega, rfl, rfl, rfl, rfl, rfl, by rw [← hOb]; simp, H3.out⟩
  case round =>
    clear H2 H3 b1 b2
    obtain ⟨k, vv, hk, rfl, rfl, rfl, rfl, rfl, hsz, HH⟩ := hrel
    by_cases hlt : k < n
    · obtain ⟨I1, I2, I3, I4, I5, I6, I7, I8, I9, I10, I11, I12⟩ := HI.out k
      have HST : Hid (P.wst x u z (k + 1) = P.wstep k (P.wst x u z k) (z k)) := rfl
      have HW : Hid (P.wSpeed x u z k = (P.wst x u z (k + 1)).v) := rfl
      rcases HZ.out with e0 | ⟨b, off, rfl, hb, hc⟩
      · omega
      have c0 : wr.cell? ⟨b, off + k, none⟩ = some (.int .i64 (z k)) := by rw [HH.out.2.2.2.2.cell hb]; exact hc k hlt
      clear hc I12
      generalize P.wst x u z k = st at *
      obtain ⟨sx, sv, was, sn, br⟩ := st
      dsimp only at *
      obtain ⟨av, cv, rfl, _, _, _⟩ := owned_shape HH.out.2.2.1
      have hboxr := HH.out.2.2.2.1
      obtain ⟨x0, x1, x2, x3, x4⟩ := hboxr
      by_cases hw : (0 ≤ z k ∧ z k ≤ 10000) ∧ P.safe 0 sx (z k) = true
      · obtain ⟨⟨hw0, hw1⟩, hws⟩ := hw
        go_wp2_with fail
        refine (l3safe_any P _ sx (z k) _ (HV.out.below HH.out.2.2.2.2) HOK.out I6 (by omega) hw0 hw1).mono ?_
        rintro e w3 ⟨rfl, hb3⟩
        rw [hws]
        have HY : Hid (WS P w w3 Ob ap az cp cz (.slice av k cv) k (singles (P.wSpeed x u z) k) br) := HH.out.below hb3
        have s3 := hb3.size
        have y1 : w3.cell? ⟨Ob, 1, none⟩ = some (.slice av k cv) := HY.out.2.1.cell (i := 1) (by omega)
        clear hb3 HH x0 x1 x2 x3 x4 c0
        have HYO : Hid (World.ownsRow (w3) (Ob + 1) 3 1 (.slice av k cv) k (singles (P.wSpeed x u z) k)) := HY.out.2.2.1
        have HN : Hid (P.wst x u z (k + 1) = ⟨sx + z k, z k, sx, 0, br⟩) := by show _ = _; rw [HST.out]; exact (if_pos ⟨hw0, hw1, hws⟩)
        go_wp2_with (first | (at_builtin; refine wpList_append_own _ rfl _ _ 27 rfl (Ob + 1) 3 i0 (.int .i64 0) 1 8 Try.underlying27 hi hz0 hz1 hz2 rfl (by decide) _ _ _ rfl (HYO.out.alloc _) ⟨w3.heap.size, 0, none⟩ 1 1 [.int .i64 (z k)] rfl rfl (alloc_add1 _ _ _ _ (by simp)) (by simp [Value.oneCell']) (by unfold maxLen; omega) (by omega) (by first | omega | (simp; omega)) ?_; intro v9 w9 hown9 hgrow9 _; obtain ⟨av9, cv9, rfl, _, _, _⟩ := owned_shape hown9; have HP := HY.out.push hO _ hgrow9 (show World.ownsRow _ (Ob + 1) 3 1 (.slice av9 (k + 1) cv9) (k + 1) (singles (P.wSpeed x u z) (k + 1)) from (by rw [singles, HW.out, HN.out]; exact hown9)); have z1 : w9.cell? ⟨Ob, 1, none⟩ = some (.slice av k cv) := HP.1.cell (i := 1) (by omega); have zf := HP.1.frozen 1; have H9 : Hid (WS P w (w9.setCell ⟨Ob, 1, none⟩ (.slice av9 (k + 1) cv9)) Ob ap az cp cz (.slice av9 (k + 1) cv9) (k + 1) (singles (P.wSpeed x u z) (k + 1)) (br)) := HP.2; have s9 := hgrow9.size; simp at s9; clear HP hown9 hgrow9 HY HYO))
        go_roundw
        case rel => refine ⟨k + 1, .slice av9 (k + 1) cv9, by omega, ?_, ?_, ?_, ?_, by go_num, by simp; omega, ?_⟩ <;> rw [HN.out] <;> first | rfl | exact H9.out
        case measure => simp [intOf]; omega
      · have HNW : Hid (¬ (0 ≤ z k ∧ z k ≤ 10000 ∧ P.safe 0 sx (z k) = true)) := fun c => hw ⟨⟨c.1, c.2.1⟩, c.2.2⟩
        clear x0 x1 x2 x3 x4
        by_cases hr : 0 ≤ z k ∧ z k ≤ 10000
        · obtain ⟨hw0, hw1⟩ := hr
          have hws : P.safe 0 sx (z k) = false := by
            cases hc : P.safe 0 sx (z k) with
            | false => rfl
            | true => exact absurd ⟨⟨hw0, hw1⟩, hc⟩ hw
          have hboxr := HH.out.2.2.2.1
          obtain ⟨x0, x1, x2, x3, x4⟩ := hboxr
          go_wp2_with fail
          refine (l3safe_any P _ sx (z k) _ (HV.out.below HH.out.2.2.2.2) HOK.out I6 (by omega) hw0 hw1).mono ?_
          rintro e w3 ⟨rfl, hb3⟩
          rw [hws]
          have HB : Hid (WS P w w3 Ob ap az cp cz (.slice av k cv) k (singles (P.wSpeed x u z) k) br) := HH.out.below hb3
          have s3 := hb3.size
          clear hb3 HH x0 x1 x2 x3 x4 c0 hws hw
          have q1 : w3.cell? ⟨Ob, 1, none⟩ = some (.slice av k cv) := HB.out.2.1.cell (i := 1) (by omega)
          have q2 : w3.cell? ⟨Ob, 2, none⟩ = some (.int .i64 br) := HB.out.2.1.cell (i := 2) (by omega)
          have qf := HB.out.2.1.frozen 2
          have hbx := HB.out.2.2.2.1
          obtain ⟨x0, x1, x2, x3, x4⟩ := hbx
          have hlO : Ob < w3.heap.size := World.block_lt_of_cell? _ _ q1
          have hneO : ¬ (w.heap.size = Ob) := by omega
          by_cases hk0 : k = 0
          · have HK0 : Hid (k = 0) := hk0
            have hk1 : (k : Int) < 1 := by omega
            clear hk0
            have HY : Hid (WS P w (w3.setCell ⟨Ob, 2, none⟩ (.int .i64 (br + 1))) Ob ap az cp cz (.slice av k cv) k (singles (P.wSpeed x u z) k) (br + 1)) := HB.out.brake hO (br + 1)
            clear HB
            have HYO : Hid (World.ownsRow (w3.setCell ⟨Ob, 2, none⟩ (.int .i64 (br + 1))) (Ob + 1) 3 1 (.slice av k cv) k (singles (P.wSpeed x u z) k)) := HY.out.2.2.1
            have HN : Hid (P.wst x u z (k + 1) = ⟨sx + sv, sv, sx, sn, br + 1⟩) := by show _ = _; rw [HST.out]; exact (if_neg HNW.out).trans (if_pos HK0.out)
            go_wp2_with (first | (at_builtin; refine wpList_append_own _ rfl _ _ 27 rfl (Ob + 1) 3 i0 (.int .i64 0) 1 8 Try.underlying27 hi hz0 hz1 hz2 rfl (by decide) _ _ _ rfl (HYO.out.alloc _) ⟨w3.heap.size, 0, none⟩ 1 1 [.int .i64 (sv)] rfl rfl (alloc_add1 _ _ _ _ (by simp)) (by simp [Value.oneCell']) (by unfold maxLen; omega) (by omega) (by first | omega | (simp; omega)) ?_; intro v9 w9 hown9 hgrow9 _; obtain ⟨av9, cv9, rfl, _, _, _⟩ := owned_shape hown9; have HP := HY.out.push hO _ hgrow9 (show World.ownsRow _ (Ob + 1) 3 1 (.slice av9 (k + 1) cv9) (k + 1) (singles (P.wSpeed x u z) (k + 1)) from (by rw [singles, HW.out, HN.out]; exact hown9)); have z1 : w9.cell? ⟨Ob, 1, none⟩ = some (.slice av k cv) := HP.1.cell (i := 1) (by omega); have zf := HP.1.frozen 1; have H9 : Hid (WS P w (w9.setCell ⟨Ob, 1, none⟩ (.slice av9 (k + 1) cv9)) Ob ap az cp cz (.slice av9 (k + 1) cv9) (k + 1) (singles (P.wSpeed x u z) (k + 1)) (br + 1)) := HP.2; have s9 := hgrow9.size; simp at s9; clear HP hown9 hgrow9 HY HYO))
            go_roundw
            case rel => refine ⟨k + 1, .slice av9 (k + 1) cv9, by omega, ?_, ?_, ?_, ?_, by go_num, by simp; omega, ?_⟩ <;> rw [HN.out] <;> first | rfl | exact H9.out
            case measure => simp [intOf]; omega
          · have hk1 : 0 < k := by omega
            by_cases hd : P.delay ≤ sn
            · have hr := HOK.out.rate was
              obtain ⟨hr0, hr1⟩ := hr
              obtain ⟨hl0, hl1⟩ := less_bounds (v := sv) (b := P.rate was) (by omega) (by omega)
              have HBR : Hid (WS P w (w3.setCell ⟨Ob, 2, none⟩ (.int .i64 (br + 1))) Ob ap az cp cz (.slice av k cv) k (singles (P.wSpeed x u z) k) (br + 1)) := HB.out.brake hO (br + 1)
              have HNX : Hid (P.next sn was sv = less sv (P.rate was)) := by show _ = _; unfold Prof.next; rw [if_pos hd]
              go_wp2_with fail
              refine (l2rate_any P _ was _ (HV.out.below HBR.out.2.2.2.2) HOK.out.lens hnp1).mono ?_
              rintro e w7 ⟨rfl, hb7⟩
              have HY : Hid (WS P w w7 Ob ap az cp cz (.slice av k cv) k (singles (P.wSpeed x u z) k) (br + 1)) := HBR.out.below hb7
              have s7 := hb7.size
              simp at s7
              have p1 : w7.cell? ⟨Ob, 1, none⟩ = some (.slice av k cv) := HY.out.2.1.cell (i := 1) (by omega)
              clear hb7 HBR HB x0 x1 x2 x3 x4 q1 q2
              go_wp2_with fail
              refine (l2less_any _ _ _ (by omega) (by omega) (by omega) (by omega)).mono ?_
              rintro e w8 ⟨rfl, hw8⟩
              rw [hw8]
              clear hw8
              have HYO : Hid (World.ownsRow (w7) (Ob + 1) 3 1 (.slice av k cv) k (singles (P.wSpeed x u z) k)) := HY.out.2.2.1
              have HN : Hid (P.wst x u z (k + 1) = ⟨sx + less sv (P.rate was), less sv (P.rate was), sx, sn + 1, br + 1⟩) := by show _ = _; rw [HST.out]; exact ((if_neg HNW.out).trans (if_neg hk0)).trans (by rw [HNX.out])
              go_wp2_with (first | (at_builtin; refine wpList_append_own _ rfl _ _ 27 rfl (Ob + 1) 3 i0 (.int .i64 0) 1 8 Try.underlying27 hi hz0 hz1 hz2 rfl (by decide) _ _ _ rfl (HYO.out.alloc _) ⟨w7.heap.size, 0, none⟩ 1 1 [.int .i64 (less sv (P.rate was))] rfl rfl (alloc_add1 _ _ _ _ (by simp)) (by simp [Value.oneCell']) (by unfold maxLen; omega) (by omega) (by first | omega | (simp; omega)) ?_; intro v9 w9 hown9 hgrow9 _; obtain ⟨av9, cv9, rfl, _, _, _⟩ := owned_shape hown9; have HP := HY.out.push hO _ hgrow9 (show World.ownsRow _ (Ob + 1) 3 1 (.slice av9 (k + 1) cv9) (k + 1) (singles (P.wSpeed x u z) (k + 1)) from (by rw [singles, HW.out, HN.out]; exact hown9)); have z1 : w9.cell? ⟨Ob, 1, none⟩ = some (.slice av k cv) := HP.1.cell (i := 1) (by omega); have zf := HP.1.frozen 1; have H9 : Hid (WS P w (w9.setCell ⟨Ob, 1, none⟩ (.slice av9 (k + 1) cv9)) Ob ap az cp cz (.slice av9 (k + 1) cv9) (k + 1) (singles (P.wSpeed x u z) (k + 1)) (br + 1)) := HP.2; have s9 := hgrow9.size; simp at s9; clear HP hown9 hgrow9 HY HYO))
              go_roundw
              case rel => refine ⟨k + 1, .slice av9 (k + 1) cv9, by omega, ?_, ?_, ?_, ?_, by go_num, by simp; omega, ?_⟩ <;> rw [HN.out] <;> first | rfl | exact H9.out
              case measure => simp [intOf]; omega
            · have HY : Hid (WS P w (w3.setCell ⟨Ob, 2, none⟩ (.int .i64 (br + 1))) Ob ap az cp cz (.slice av k cv) k (singles (P.wSpeed x u z) k) (br + 1)) := HB.out.brake hO (br + 1)
              have HNX : Hid (P.next sn was sv = sv) := by show _ = _; unfold Prof.next; rw [if_neg hd]
              clear HB
              have HYO : Hid (World.ownsRow (w3.setCell ⟨Ob, 2, none⟩ (.int .i64 (br + 1))) (Ob + 1) 3 1 (.slice av k cv) k (singles (P.wSpeed x u z) k)) := HY.out.2.2.1
              have HN : Hid (P.wst x u z (k + 1) = ⟨sx + sv, sv, sx, sn + 1, br + 1⟩) := by show _ = _; rw [HST.out]; exact ((if_neg HNW.out).trans (if_neg hk0)).trans (by rw [HNX.out])
              go_wp2_with (first | (at_builtin; refine wpList_append_own _ rfl _ _ 27 rfl (Ob + 1) 3 i0 (.int .i64 0) 1 8 Try.underlying27 hi hz0 hz1 hz2 rfl (by decide) _ _ _ rfl (HYO.out.alloc _) ⟨w3.heap.size, 0, none⟩ 1 1 [.int .i64 (sv)] rfl rfl (alloc_add1 _ _ _ _ (by simp)) (by simp [Value.oneCell']) (by unfold maxLen; omega) (by omega) (by first | omega | (simp; omega)) ?_; intro v9 w9 hown9 hgrow9 _; obtain ⟨av9, cv9, rfl, _, _, _⟩ := owned_shape hown9; have HP := HY.out.push hO _ hgrow9 (show World.ownsRow _ (Ob + 1) 3 1 (.slice av9 (k + 1) cv9) (k + 1) (singles (P.wSpeed x u z) (k + 1)) from (by rw [singles, HW.out, HN.out]; exact hown9)); have z1 : w9.cell? ⟨Ob, 1, none⟩ = some (.slice av k cv) := HP.1.cell (i := 1) (by omega); have zf := HP.1.frozen 1; have H9 : Hid (WS P w (w9.setCell ⟨Ob, 1, none⟩ (.slice av9 (k + 1) cv9)) Ob ap az cp cz (.slice av9 (k + 1) cv9) (k + 1) (singles (P.wSpeed x u z) (k + 1)) (br + 1)) := HP.2; have s9 := hgrow9.size; simp at s9; clear HP hown9 hgrow9 HY HYO))
              go_roundw
              case rel => refine ⟨k + 1, .slice av9 (k + 1) cv9, by omega, ?_, ?_, ?_, ?_, by go_num, by simp; omega, ?_⟩ <;> rw [HN.out] <;> first | rfl | exact H9.out
              case measure => simp [intOf]; omega
        · have HB : Hid (WS P w wr Ob ap az cp cz (.slice av k cv) k (singles (P.wSpeed x u z) k) br) := HH.out
          clear HH hw
          by_cases za0 : 0 ≤ z k
          · have za1 : decide (z k ≤ 10000) = false := by simp; omega
            clear hr
            have q1 : wr.cell? ⟨Ob, 1, none⟩ = some (.slice av k cv) := HB.out.2.1.cell (i := 1) (by omega)
            have q2 : wr.cell? ⟨Ob, 2, none⟩ = some (.int .i64 br) := HB.out.2.1.cell (i := 2) (by omega)
            have qf := HB.out.2.1.frozen 2
            have hbx := HB.out.2.2.2.1
            obtain ⟨x0, x1, x2, x3, x4⟩ := hbx
            have hlO : Ob < wr.heap.size := World.block_lt_of_cell? _ _ q1
            have hneO : ¬ (w.heap.size = Ob) := by omega
            by_cases hk0 : k = 0
            · have HK0 : Hid (k = 0) := hk0
              have hk1 : (k : Int) < 1 := by omega
              clear hk0
              have HY : Hid (WS P w (wr.setCell ⟨Ob, 2, none⟩ (.int .i64 (br + 1))) Ob ap az cp cz (.slice av k cv) k (singles (P.wSpeed x u z) k) (br + 1)) := HB.out.brake hO (br + 1)
              clear HB
              have HYO : Hid (World.ownsRow (wr.setCell ⟨Ob, 2, none⟩ (.int .i64 (br + 1))) (Ob + 1) 3 1 (.slice av k cv) k (singles (P.wSpeed x u z) k)) := HY.out.2.2.1
              have HN : Hid (P.wst x u z (k + 1) = ⟨sx + sv, sv, sx, sn, br + 1⟩) := by show _ = _; rw [HST.out]; exact (if_neg HNW.out).trans (if_pos HK0.out)
              go_wp2_with (first | (at_builtin; refine wpList_append_own _ rfl _ _ 27 rfl (Ob + 1) 3 i0 (.int .i64 0) 1 8 Try.underlying27 hi hz0 hz1 hz2 rfl (by decide) _ _ _ rfl (HYO.out.alloc _) ⟨wr.heap.size, 0, none⟩ 1 1 [.int .i64 (sv)] rfl rfl (alloc_add1 _ _ _ _ (by simp)) (by simp [Value.oneCell']) (by unfold maxLen; omega) (by omega) (by first | omega | (simp; omega)) ?_; intro v9 w9 hown9 hgrow9 _; obtain ⟨av9, cv9, rfl, _, _, _⟩ := owned_shape hown9; have HP := HY.out.push hO _ hgrow9 (show World.ownsRow _ (Ob + 1) 3 1 (.slice av9 (k + 1) cv9) (k + 1) (singles (P.wSpeed x u z) (k + 1)) from (by rw [singles, HW.out, HN.out]; exact hown9)); have z1 : w9.cell? ⟨Ob, 1, none⟩ = some (.slice av k cv) := HP.1.cell (i := 1) (by omega); have zf := HP.1.frozen 1; have H9 : Hid (WS P w (w9.setCell ⟨Ob, 1, none⟩ (.slice av9 (k + 1) cv9)) Ob ap az cp cz (.slice av9 (k + 1) cv9) (k + 1) (singles (P.wSpeed x u z) (k + 1)) (br + 1)) := HP.2; have s9 := hgrow9.size; simp at s9; clear HP hown9 hgrow9 HY HYO))
              go_roundw
              case rel => refine ⟨k + 1, .slice av9 (k + 1) cv9, by omega, ?_, ?_, ?_, ?_, by go_num, by simp; omega, ?_⟩ <;> rw [HN.out] <;> first | rfl | exact H9.out
              case measure => simp [intOf]; omega
            · have hk1 : 0 < k := by omega
              by_cases hd : P.delay ≤ sn
              · have hr := HOK.out.rate was
                obtain ⟨hr0, hr1⟩ := hr
                obtain ⟨hl0, hl1⟩ := less_bounds (v := sv) (b := P.rate was) (by omega) (by omega)
                have HBR : Hid (WS P w (wr.setCell ⟨Ob, 2, none⟩ (.int .i64 (br + 1))) Ob ap az cp cz (.slice av k cv) k (singles (P.wSpeed x u z) k) (br + 1)) := HB.out.brake hO (br + 1)
                have HNX : Hid (P.next sn was sv = less sv (P.rate was)) := by show _ = _; unfold Prof.next; rw [if_pos hd]
                go_wp2_with fail
                refine (l2rate_any P _ was _ (HV.out.below HBR.out.2.2.2.2) HOK.out.lens hnp1).mono ?_
                rintro e w7 ⟨rfl, hb7⟩
                have HY : Hid (WS P w w7 Ob ap az cp cz (.slice av k cv) k (singles (P.wSpeed x u z) k) (br + 1)) := HBR.out.below hb7
                have s7 := hb7.size
                simp at s7
                have p1 : w7.cell? ⟨Ob, 1, none⟩ = some (.slice av k cv) := HY.out.2.1.cell (i := 1) (by omega)
                clear hb7 HBR HB x0 x1 x2 x3 x4 q1 q2
                go_wp2_with fail
                refine (l2less_any _ _ _ (by omega) (by omega) (by omega) (by omega)).mono ?_
                rintro e w8 ⟨rfl, hw8⟩
                rw [hw8]
                clear hw8
                have HYO : Hid (World.ownsRow (w7) (Ob + 1) 3 1 (.slice av k cv) k (singles (P.wSpeed x u z) k)) := HY.out.2.2.1
                have HN : Hid (P.wst x u z (k + 1) = ⟨sx + less sv (P.rate was), less sv (P.rate was), sx, sn + 1, br + 1⟩) := by show _ = _; rw [HST.out]; exact ((if_neg HNW.out).trans (if_neg hk0)).trans (by rw [HNX.out])
                go_wp2_with (first | (at_builtin; refine wpList_append_own _ rfl _ _ 27 rfl (Ob + 1) 3 i0 (.int .i64 0) 1 8 Try.underlying27 hi hz0 hz1 hz2 rfl (by decide) _ _ _ rfl (HYO.out.alloc _) ⟨w7.heap.size, 0, none⟩ 1 1 [.int .i64 (less sv (P.rate was))] rfl rfl (alloc_add1 _ _ _ _ (by simp)) (by simp [Value.oneCell']) (by unfold maxLen; omega) (by omega) (by first | omega | (simp; omega)) ?_; intro v9 w9 hown9 hgrow9 _; obtain ⟨av9, cv9, rfl, _, _, _⟩ := owned_shape hown9; have HP := HY.out.push hO _ hgrow9 (show World.ownsRow _ (Ob + 1) 3 1 (.slice av9 (k + 1) cv9) (k + 1) (singles (P.wSpeed x u z) (k + 1)) from (by rw [singles, HW.out, HN.out]; exact hown9)); have z1 : w9.cell? ⟨Ob, 1, none⟩ = some (.slice av k cv) := HP.1.cell (i := 1) (by omega); have zf := HP.1.frozen 1; have H9 : Hid (WS P w (w9.setCell ⟨Ob, 1, none⟩ (.slice av9 (k + 1) cv9)) Ob ap az cp cz (.slice av9 (k + 1) cv9) (k + 1) (singles (P.wSpeed x u z) (k + 1)) (br + 1)) := HP.2; have s9 := hgrow9.size; simp at s9; clear HP hown9 hgrow9 HY HYO))
                go_roundw
                case rel => refine ⟨k + 1, .slice av9 (k + 1) cv9, by omega, ?_, ?_, ?_, ?_, by go_num, by simp; omega, ?_⟩ <;> rw [HN.out] <;> first | rfl | exact H9.out
                case measure => simp [intOf]; omega
              · have HY : Hid (WS P w (wr.setCell ⟨Ob, 2, none⟩ (.int .i64 (br + 1))) Ob ap az cp cz (.slice av k cv) k (singles (P.wSpeed x u z) k) (br + 1)) := HB.out.brake hO (br + 1)
                have HNX : Hid (P.next sn was sv = sv) := by show _ = _; unfold Prof.next; rw [if_neg hd]
                clear HB
                have HYO : Hid (World.ownsRow (wr.setCell ⟨Ob, 2, none⟩ (.int .i64 (br + 1))) (Ob + 1) 3 1 (.slice av k cv) k (singles (P.wSpeed x u z) k)) := HY.out.2.2.1
                have HN : Hid (P.wst x u z (k + 1) = ⟨sx + sv, sv, sx, sn + 1, br + 1⟩) := by show _ = _; rw [HST.out]; exact ((if_neg HNW.out).trans (if_neg hk0)).trans (by rw [HNX.out])
                go_wp2_with (first | (at_builtin; refine wpList_append_own _ rfl _ _ 27 rfl (Ob + 1) 3 i0 (.int .i64 0) 1 8 Try.underlying27 hi hz0 hz1 hz2 rfl (by decide) _ _ _ rfl (HYO.out.alloc _) ⟨wr.heap.size, 0, none⟩ 1 1 [.int .i64 (sv)] rfl rfl (alloc_add1 _ _ _ _ (by simp)) (by simp [Value.oneCell']) (by unfold maxLen; omega) (by omega) (by first | omega | (simp; omega)) ?_; intro v9 w9 hown9 hgrow9 _; obtain ⟨av9, cv9, rfl, _, _, _⟩ := owned_shape hown9; have HP := HY.out.push hO _ hgrow9 (show World.ownsRow _ (Ob + 1) 3 1 (.slice av9 (k + 1) cv9) (k + 1) (singles (P.wSpeed x u z) (k + 1)) from (by rw [singles, HW.out, HN.out]; exact hown9)); have z1 : w9.cell? ⟨Ob, 1, none⟩ = some (.slice av k cv) := HP.1.cell (i := 1) (by omega); have zf := HP.1.frozen 1; have H9 : Hid (WS P w (w9.setCell ⟨Ob, 1, none⟩ (.slice av9 (k + 1) cv9)) Ob ap az cp cz (.slice av9 (k + 1) cv9) (k + 1) (singles (P.wSpeed x u z) (k + 1)) (br + 1)) := HP.2; have s9 := hgrow9.size; simp at s9; clear HP hown9 hgrow9 HY HYO))
                go_roundw
                case rel => refine ⟨k + 1, .slice av9 (k + 1) cv9, by omega, ?_, ?_, ?_, ?_, by go_num, by simp; omega, ?_⟩ <;> rw [HN.out] <;> first | rfl | exact H9.out
                case measure => simp [intOf]; omega
          · have za1 : decide (0 ≤ z k) = false := by simpa using za0
            clear hr
            have q1 : wr.cell? ⟨Ob, 1, none⟩ = some (.slice av k cv) := HB.out.2.1.cell (i := 1) (by omega)
            have q2 : wr.cell? ⟨Ob, 2, none⟩ = some (.int .i64 br) := HB.out.2.1.cell (i := 2) (by omega)
            have qf := HB.out.2.1.frozen 2
            have hbx := HB.out.2.2.2.1
            obtain ⟨x0, x1, x2, x3, x4⟩ := hbx
            have hlO : Ob < wr.heap.size := World.block_lt_of_cell? _ _ q1
            have hneO : ¬ (w.heap.size = Ob) := by omega
            by_cases hk0 : k = 0
            · have HK0 : Hid (k = 0) := hk0
              have hk1 : (k : Int) < 1 := by omega
              clear hk0
              have HY : Hid (WS P w (wr.setCell ⟨Ob, 2, none⟩ (.int .i64 (br + 1))) Ob ap az cp cz (.slice av k cv) k (singles (P.wSpeed x u z) k) (br + 1)) := HB.out.brake hO (br + 1)
              clear HB
              have HYO : Hid (World.ownsRow (wr.setCell ⟨Ob, 2, none⟩ (.int .i64 (br + 1))) (Ob + 1) 3 1 (.slice av k cv) k (singles (P.wSpeed x u z) k)) := HY.out.2.2.1
              have HN : Hid (P.wst x u z (k + 1) = ⟨sx + sv, sv, sx, sn, br + 1⟩) := by show _ = _; rw [HST.out]; exact (if_neg HNW.out).trans (if_pos HK0.out)
              go_wp2_with (first | (at_builtin; refine wpList_append_own _ rfl _ _ 27 rfl (Ob + 1) 3 i0 (.int .i64 0) 1 8 Try.underlying27 hi hz0 hz1 hz2 rfl (by decide) _ _ _ rfl (HYO.out.alloc _) ⟨wr.heap.size, 0, none⟩ 1 1 [.int .i64 (sv)] rfl rfl (alloc_add1 _ _ _ _ (by simp)) (by simp [Value.oneCell']) (by unfold maxLen; omega) (by omega) (by first | omega | (simp; omega)) ?_; intro v9 w9 hown9 hgrow9 _; obtain ⟨av9, cv9, rfl, _, _, _⟩ := owned_shape hown9; have HP := HY.out.push hO _ hgrow9 (show World.ownsRow _ (Ob + 1) 3 1 (.slice av9 (k + 1) cv9) (k + 1) (singles (P.wSpeed x u z) (k + 1)) from (by rw [singles, HW.out, HN.out]; exact hown9)); have z1 : w9.cell? ⟨Ob, 1, none⟩ = some (.slice av k cv) := HP.1.cell (i := 1) (by omega); have zf := HP.1.frozen 1; have H9 : Hid (WS P w (w9.setCell ⟨Ob, 1, none⟩ (.slice av9 (k + 1) cv9)) Ob ap az cp cz (.slice av9 (k + 1) cv9) (k + 1) (singles (P.wSpeed x u z) (k + 1)) (br + 1)) := HP.2; have s9 := hgrow9.size; simp at s9; clear HP hown9 hgrow9 HY HYO))
              go_roundw
              case rel => refine ⟨k + 1, .slice av9 (k + 1) cv9, by omega, ?_, ?_, ?_, ?_, by go_num, by simp; omega, ?_⟩ <;> rw [HN.out] <;> first | rfl | exact H9.out
              case measure => simp [intOf]; omega
            · have hk1 : 0 < k := by omega
              by_cases hd : P.delay ≤ sn
              · have hr := HOK.out.rate was
                obtain ⟨hr0, hr1⟩ := hr
                obtain ⟨hl0, hl1⟩ := less_bounds (v := sv) (b := P.rate was) (by omega) (by omega)
                have HBR : Hid (WS P w (wr.setCell ⟨Ob, 2, none⟩ (.int .i64 (br + 1))) Ob ap az cp cz (.slice av k cv) k (singles (P.wSpeed x u z) k) (br + 1)) := HB.out.brake hO (br + 1)
                have HNX : Hid (P.next sn was sv = less sv (P.rate was)) := by show _ = _; unfold Prof.next; rw [if_pos hd]
                go_wp2_with fail
                refine (l2rate_any P _ was _ (HV.out.below HBR.out.2.2.2.2) HOK.out.lens hnp1).mono ?_
                rintro e w7 ⟨rfl, hb7⟩
                have HY : Hid (WS P w w7 Ob ap az cp cz (.slice av k cv) k (singles (P.wSpeed x u z) k) (br + 1)) := HBR.out.below hb7
                have s7 := hb7.size
                simp at s7
                have p1 : w7.cell? ⟨Ob, 1, none⟩ = some (.slice av k cv) := HY.out.2.1.cell (i := 1) (by omega)
                clear hb7 HBR HB x0 x1 x2 x3 x4 q1 q2
                go_wp2_with fail
                refine (l2less_any _ _ _ (by omega) (by omega) (by omega) (by omega)).mono ?_
                rintro e w8 ⟨rfl, hw8⟩
                rw [hw8]
                clear hw8
                have HYO : Hid (World.ownsRow (w7) (Ob + 1) 3 1 (.slice av k cv) k (singles (P.wSpeed x u z) k)) := HY.out.2.2.1
                have HN : Hid (P.wst x u z (k + 1) = ⟨sx + less sv (P.rate was), less sv (P.rate was), sx, sn + 1, br + 1⟩) := by show _ = _; rw [HST.out]; exact ((if_neg HNW.out).trans (if_neg hk0)).trans (by rw [HNX.out])
                go_wp2_with (first | (at_builtin; refine wpList_append_own _ rfl _ _ 27 rfl (Ob + 1) 3 i0 (.int .i64 0) 1 8 Try.underlying27 hi hz0 hz1 hz2 rfl (by decide) _ _ _ rfl (HYO.out.alloc _) ⟨w7.heap.size, 0, none⟩ 1 1 [.int .i64 (less sv (P.rate was))] rfl rfl (alloc_add1 _ _ _ _ (by simp)) (by simp [Value.oneCell']) (by unfold maxLen; omega) (by omega) (by first | omega | (simp; omega)) ?_; intro v9 w9 hown9 hgrow9 _; obtain ⟨av9, cv9, rfl, _, _, _⟩ := owned_shape hown9; have HP := HY.out.push hO _ hgrow9 (show World.ownsRow _ (Ob + 1) 3 1 (.slice av9 (k + 1) cv9) (k + 1) (singles (P.wSpeed x u z) (k + 1)) from (by rw [singles, HW.out, HN.out]; exact hown9)); have z1 : w9.cell? ⟨Ob, 1, none⟩ = some (.slice av k cv) := HP.1.cell (i := 1) (by omega); have zf := HP.1.frozen 1; have H9 : Hid (WS P w (w9.setCell ⟨Ob, 1, none⟩ (.slice av9 (k + 1) cv9)) Ob ap az cp cz (.slice av9 (k + 1) cv9) (k + 1) (singles (P.wSpeed x u z) (k + 1)) (br + 1)) := HP.2; have s9 := hgrow9.size; simp at s9; clear HP hown9 hgrow9 HY HYO))
                go_roundw
                case rel => refine ⟨k + 1, .slice av9 (k + 1) cv9, by omega, ?_, ?_, ?_, ?_, by go_num, by simp; omega, ?_⟩ <;> rw [HN.out] <;> first | rfl | exact H9.out
                case measure => simp [intOf]; omega
              · have HY : Hid (WS P w (wr.setCell ⟨Ob, 2, none⟩ (.int .i64 (br + 1))) Ob ap az cp cz (.slice av k cv) k (singles (P.wSpeed x u z) k) (br + 1)) := HB.out.brake hO (br + 1)
                have HNX : Hid (P.next sn was sv = sv) := by show _ = _; unfold Prof.next; rw [if_neg hd]
                clear HB
                have HYO : Hid (World.ownsRow (wr.setCell ⟨Ob, 2, none⟩ (.int .i64 (br + 1))) (Ob + 1) 3 1 (.slice av k cv) k (singles (P.wSpeed x u z) k)) := HY.out.2.2.1
                have HN : Hid (P.wst x u z (k + 1) = ⟨sx + sv, sv, sx, sn + 1, br + 1⟩) := by show _ = _; rw [HST.out]; exact ((if_neg HNW.out).trans (if_neg hk0)).trans (by rw [HNX.out])
                go_wp2_with (first | (at_builtin; refine wpList_append_own _ rfl _ _ 27 rfl (Ob + 1) 3 i0 (.int .i64 0) 1 8 Try.underlying27 hi hz0 hz1 hz2 rfl (by decide) _ _ _ rfl (HYO.out.alloc _) ⟨wr.heap.size, 0, none⟩ 1 1 [.int .i64 (sv)] rfl rfl (alloc_add1 _ _ _ _ (by simp)) (by simp [Value.oneCell']) (by unfold maxLen; omega) (by omega) (by first | omega | (simp; omega)) ?_; intro v9 w9 hown9 hgrow9 _; obtain ⟨av9, cv9, rfl, _, _, _⟩ := owned_shape hown9; have HP := HY.out.push hO _ hgrow9 (show World.ownsRow _ (Ob + 1) 3 1 (.slice av9 (k + 1) cv9) (k + 1) (singles (P.wSpeed x u z) (k + 1)) from (by rw [singles, HW.out, HN.out]; exact hown9)); have z1 : w9.cell? ⟨Ob, 1, none⟩ = some (.slice av k cv) := HP.1.cell (i := 1) (by omega); have zf := HP.1.frozen 1; have H9 : Hid (WS P w (w9.setCell ⟨Ob, 1, none⟩ (.slice av9 (k + 1) cv9)) Ob ap az cp cz (.slice av9 (k + 1) cv9) (k + 1) (singles (P.wSpeed x u z) (k + 1)) (br + 1)) := HP.2; have s9 := hgrow9.size; simp at s9; clear HP hown9 hgrow9 HY HYO))
                go_roundw
                case rel => refine ⟨k + 1, .slice av9 (k + 1) cv9, by omega, ?_, ?_, ?_, ?_, by go_num, by simp; omega, ?_⟩ <;> rw [HN.out] <;> first | rfl | exact H9.out
                case measure => simp [intOf]; omega
    · have e : k = n := by omega
      subst e
      obtain ⟨av, cv, rfl, _, _, _⟩ := owned_shape HH.out.2.2.1
      obtain ⟨o1, o2, o3, o4, o5⟩ := HH.out
      have k0 : wr.cell? ⟨Ob, 0, none⟩ = some (.bool true) := o2.cell (i := 0) (by omega)
      have k1 : wr.cell? ⟨Ob, 1, none⟩ = some (.slice av k cv) := o2.cell (i := 1) (by omega)
      have k2 : wr.cell? ⟨Ob, 2, none⟩ = some (.int .i64 (P.wst x u z k).braked) := o2.cell (i := 2) (by omega)
      have k3 : wr.cell? ⟨Ob, 3, none⟩ = some (.int .i64 0) := o2.cell (i := 3) (by omega)
      have kf := o2.frozen
      have r0 : wr.cell? ⟨w.heap.size + 1, 0, none⟩ = some (.bool false) := o1.cell (i := 0) (by omega)
      have r1 : wr.cell? ⟨w.heap.size + 1, 1, none⟩ = some (.slice none 0 0) := o1.cell (i := 1) (by omega)
      have r2 : wr.cell? ⟨w.heap.size + 1, 2, none⟩ = some (.int .i64 0) := o1.cell (i := 2) (by omega)
      have r3 : wr.cell? ⟨w.heap.size + 1, 3, none⟩ = some (.int .i64 0) := o1.cell (i := 3) (by omega)
      have rf := o1.frozen
      have hne : ¬ (Ob = w.heap.size + 1) := by omega
      have hne' : ¬ (w.heap.size + 1 = Ob) := by omega
      clear o1 o2 o3 o4 o5
      go_wp2
      refine bodyPost_ret (v := .agg #[.bool true, .slice av k cv, .int .i64 (P.wst x u z k).braked, .int .i64 (P.wst x u z k).x]) (by simp [results, Try.results16, go_sem, *]) rfl ⟨_, rfl, ?_, ?_⟩
      · obtain ⟨o1, o2, o3, o4, o5⟩ := HH.out
        have q1 := owned_grown o3 (watch_set wr Ob 3 (.int .i64 (P.wst x u z k).x)) (fun j e he => by have h1 := ownsRow_block o3 j he; have h2 := Option.some.inj e; omega)
        have q2 := owned_grown q1 (watch_set _ (w.heap.size + 1) 0 (.bool true)) (fun j e he => by have h1 := ownsRow_block q1 j he; have h2 := Option.some.inj e; omega)
        have q3 := owned_grown q2 (watch_set _ (w.heap.size + 1) 1 (.slice av k cv)) (fun j e he => by have h1 := ownsRow_block q2 j he; have h2 := Option.some.inj e; omega)
        have q4 := owned_grown q3 (watch_set _ (w.heap.size + 1) 2 (.int .i64 (P.wst x u z k).braked)) (fun j e he => by have h1 := ownsRow_block q3 j he; have h2 := Option.some.inj e; omega)
        have q5 := owned_grown q4 (watch_set _ (w.heap.size + 1) 3 (.int .i64 (P.wst x u z k).x)) (fun j e he => by have h1 := ownsRow_block q4 j he; have h2 := Option.some.inj e; omega)
        exact watch_base q5 (by omega)
      · iterate 4 refine Below.setCell ?_ (by simp) _
        exact HH.out.2.2.2.2.setCell (by show w.heap.size ≤ Ob; omega) _

end Go.Proofs.Yteodefmpkljedaa
