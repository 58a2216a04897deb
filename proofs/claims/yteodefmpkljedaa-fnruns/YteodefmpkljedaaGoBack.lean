/-
  The program's search: the states from which a tick leads to one.
-/
import Derived.Test.YteodefmpkljedaaRounds
namespace Go.Proofs.Yteodefmpkljedaa
open Go.RowKit Go.Sort Go.Shelf
attribute [local go_sem ↓] Go.wp_at_zero Go.wp_at_succ
set_option linter.unusedVariables false

theorem wrap16 {x : Int} (h : -32768 ≤ x) (g : x ≤ 32767) : IntKind.i16.wrap x = x := IntWalk.i16_in x ⟨h, g⟩
/-- The one operation that may come up, all of them keeping S. -/
theorem wpAnyH_one {P : Program} {md : Region.Mode} {ops : Array Oper} {Q : Exit → Act → World → Prop} {S : World → Prop} {i : Nat} {oi : Oper} {f : Nat} {l : Array Bool} {a : Act} {w : World} (hi : ops[i]? = some oi) (hr : Region.ready md ops l = [i])
    (h : ∀ K : Act → World → Prop, (∀ a' w', S w' → wpAnyH P md ops Q S f (l.setIfInBounds i true) a' w' → K a' w') → if Region.wanted oi (yielded ops a.tmps) = true then Oper.wp P oi a w K Q else K (a.put oi.dst undef) w) : wpAnyH P md ops Q S (f + 1) l a w := by
  refine wpAnyH_all hr (by simp) (fun j hj => ?_)
  have e : j = i := by simpa using hj
  subst e
  have := h (fun a' w' => S w' ∧ wpAnyH P md ops Q S f (l.setIfInBounds j true) a' w') (fun a' w' q1 q2 => ⟨q1, q2⟩)
  unfold wpOp
  rw [hi]
  dsimp only
  by_cases c : Region.wanted oi (yielded ops a.tmps) = true
  · rw [if_pos c] at this ⊢; exact Or.inl this
  · rw [if_neg c] at this ⊢; exact this
/-- A row of another type, or a shorter one, is not the queue's. -/
theorem QAt.own_ne {w : World} {Q : Nat} {sv : Value} {len k : Nat} {A V : Nat → Int} (h : QAt w Q sv len k A V) {b t m : Nat} {f : Nat → Value} (hr : w.rowIs b t m f) (hne : t ≠ 110 ∨ m < len * 2) : sv.ownBlock ≠ some b := by
  intro e
  obtain ⟨_, h2⟩ := h
  obtain ⟨c, hc, hs, _⟩ := hr
  rcases h2.2 with ⟨rfl, _⟩ | ⟨g, cap, cur, rfl, _, hh, hcap, _, hsz, _⟩
  · cases e
  · have eg : g = b := by simpa [Value.ownBlock] using e
    subst eg
    rw [hh] at hc
    simp only [Option.some.injEq, Obj.cells.injEq] at hc
    obtain ⟨e1, e2, _⟩ := hc
    subst e1
    rcases hne with q | q
    · exact q e2.symm
    · have : len * 2 ≤ cap * 2 := Nat.mul_le_mul_right 2 hcap
      omega
theorem QAt.own {w : World} {Q : Nat} {sv : Value} {len k : Nat} {A V : Nat → Int} (h : QAt w Q sv len k A V) : ∀ j, sv.ownBlock = some j → Q < j ∧ j < w.heap.size := fun j e => by
  have := h.2.lt j e
  omega
theorem QAt.below {w w1 : World} {Q : Nat} {sv : Value} {len k : Nat} {A V : Nat → Int} (h : QAt w Q sv len k A V) (hb : Below w.heap.size w w1) : QAt w1 Q sv len k A V := ⟨rowIs_below h.1 hb, ownsRow_below h.2 hb⟩
/-- What holds of the search. -/
structure Prof.Srch (P : Prof) (acc x short : Int) (n : Nat) (L : Nat → Int) (A V : Nat → Int) (len i : Nat) : Prop where
  bfs : Bfs (P.way acc x) (P.homeN x short) L (fun j => stn (A j) (V j)) len i
  box : ∀ j, j < len → (0 ≤ A j ∧ A j ≤ n) ∧ (0 ≤ V j ∧ V j ≤ 60)
  low : ∀ s, -1 ≤ L s
  top : ∀ s, L s ≤ 2000
  cnt : cnt L 122061 = len
structure Prof.SrchT (P : Prof) (acc x short : Int) (n : Nat) (L : Nat → Int) (A V : Nat → Int) (len i : Nat) (D W m : Int) : Prop where
  turn : P.Turn acc x short L (fun j => stn (A j) (V j)) len i D W m
  box : ∀ j, j < len → (0 ≤ A j ∧ A j ≤ n) ∧ (0 ≤ V j ∧ V j ≤ 60)
  low : ∀ s, -1 ≤ L s
  top : ∀ s, L s ≤ 2000
  cnt : cnt L 122061 = len
theorem Prof.SrchT.no {P : Prof} {acc x short : Int} {n : Nat} {L A V : Nat → Int} {len i : Nat} {D W m : Int} (h : P.SrchT acc x short n L A V len i D W m) (hm : 0 ≤ L (stn (D - W) m)) : P.SrchT acc x short n L A V len i D W (m + 1) := ⟨h.turn.no (Or.inl hm), h.box, h.low, h.top, h.cnt⟩
theorem Prof.SrchT.yes {P : Prof} {acc x short : Int} {n : Nat} {L A V : Nat → Int} {len i : Nat} {D W m : Int} (h : P.SrchT acc x short n L A V len i D W m) (hn : n ≤ 2000) (D0 : 0 ≤ D - W) (D2 : D - W ≤ n) (D1 : x + (D - W) ≤ P.fin) (m0 : 0 ≤ m) (m1 : m ≤ 60) (hL : L (stn (D - W) m) < 0) (hg : P.goes acc x (D - W) m W = true) (ht : L (stn D W) ≤ 1999) :
    P.SrchT acc x short n (upd L (stn (D - W) m) (L (stn D W) + 1)) (upd A len (D - W)) (upd V len m) (len + 1) i D W (m + 1) := by
  have h0 := h.turn.bfs.set i h.turn.lt
  have e1 := h.turn.at'
  have hlt := h.turn.lt
  have h2 := h.turn.yes D0 D1 m0 m1 hL hg
  have e2 : (fun j => stn (upd A len (D - W) j) (upd V len m j)) = upd (fun j => stn (A j) (V j)) len (stn (D - W) m) := by
    funext j
    by_cases c : j = len
    · subst c; rw [upd_same, upd_same, upd_same]
    · rw [upd_other A _ c, upd_other V _ c, upd_other _ _ c]
  change stn (A i) (V i) = stn D W at e1
  change 0 ≤ L (stn (A i) (V i)) at h0
  rw [e1] at h0
  change P.Turn acc x short (upd L (stn (D - W) m) (L (stn (A i) (V i)) + 1)) _ _ _ _ _ _ at h2
  rw [e1] at h2
  have hs : stn (D - W) m < 122061 := by have := stn_of D0 m0 m1; omega
  refine ⟨by rw [e2]; exact h2, fun j hj => ?_, fun s => ?_, fun s => ?_, ?_⟩
  · by_cases c : j = len
    · subst c; rw [upd_same, upd_same]; exact ⟨⟨D0, D2⟩, m0, m1⟩
    · rw [upd_other A _ c, upd_other V _ c]; exact h.box j (by omega)
  · by_cases c : s = stn (D - W) m
    · subst c; rw [upd_same]; omega
    · rw [upd_other L _ c]; exact h.low s
  · by_cases c : s = stn (D - W) m
    · subst c; rw [upd_same]; omega
    · rw [upd_other L _ c]; exact h.top s
  · rw [cnt_upd hL (by omega) 122061 hs, h.cnt]
theorem Tab.set {w : World} {H : Nat} {L : Nat → Int} (h : Tab w H L) (t : Nat) (v : Int) : Tab (w.setCell ⟨H, t, none⟩ (.int .i16 (v + 1))) H (upd L t v) := by
  refine World.rowIs.congr (World.rowIs.set h t (.int .i16 (v + 1))) (fun i hi => ?_)
  by_cases c : i = t
  · subst c; rw [if_pos rfl, upd_same]
  · rw [if_neg c, upd_other L v c]

set_option maxRecDepth 20000 in
set_option maxHeartbeats 8000000 in
theorem goBack_any (P : Prof) (w : World) (g n H Q S : Nat) (acc x short D W d1 v1 : Int) (L A V : Nat → Int) (sv : Value) (len i : Nat)
    (hf : P.Fit) (hN : P.fin - x = (n : Int)) (hn : n ≤ 2000) (a0 : 1 ≤ acc) (a1 : acc ≤ 20) (hsp : P.Spots w g n x) (hgH : g < H) (hHQ : H < Q) (hQS : Q < S)
    (ht : Tab w H L) (hq : QAt w Q sv len (i + 1) A V) (hS : StAt w S d1 v1) (hoS : sv.ownBlock ≠ some S) (hr : P.Srch acc x short n L A V len i) (hi : i < len) (hA : A i = D) (hV : V i = W) (hL : L (stn D W) ≤ 1999) :
    Calls Try.prog 112 #[tripV g n acc short, stV D W, .pointer (some ⟨H, 0, none⟩), .pointer (some ⟨Q, 0, none⟩)] w fun e w' => e = .returned (.tuple #[]) ∧ ∃ (L' A' V' : Nat → Int) (sv' : Value) (len' : Nat),
      Tab w' H L' ∧ QAt w' Q sv' len' (i + 1) A' V' ∧ StAt w' S d1 v1 ∧ sv'.ownBlock ≠ some S ∧ P.Srch acc x short n L' A' V' len' (i + 1) ∧ Below H w w' := by
  have HF : Hid P.Fit := hf
  have HSP : Hid (P.Spots w g n x) := hsp
  have HT : Hid (Tab w H L) := ht
  have HQ : Hid (QAt w Q sv len (i + 1) A V) := hq
  have HS : Hid (StAt w S d1 v1) := hS
  have HR : Hid (P.Srch acc x short n L A V len i) := hr
  have hHl := ht.lt
  have hQl := hq.1.lt
  have hSl := hS.lt
  have hgl := hsp.lt
  obtain ⟨⟨D0, D1⟩, W0', W1'⟩ := hr.box i hi
  rw [hA] at D0 D1
  rw [hV] at W0' W1'
  have HQI : Hid ((fun j => stn (A j) (V j)) i = stn D W) := by show stn (A i) (V i) = _; rw [hA, hV]
  have HRT : Hid (∀ y, 1 ≤ P.rate y) := fun y => (hf.rate y).1
  clear hf hsp ht hq hS hr hA hV
  unfold tripV stV
  go_enter Try.func112, Try.ntmps112
  go_wp2_with fail
  obtain ⟨T2, hT2⟩ : ∃ T2, w.heap.size = T2 := ⟨_, rfl⟩
  obtain ⟨W0, hW0⟩ : ∃ W0, (w.alloc (.cells #[.slice (some ⟨g, 0, none⟩) (n + 1) (n + 1), .int .i64 acc, .int .i64 short] 102)).alloc (.cells #[.int .i64 D, .int .i64 W] 110) = W0 := ⟨_, rfl⟩
  have b0 : Below w.heap.size w W0 := by rw [← hW0]; exact ((Below.refl _ _).alloc (Nat.le_refl _) _).alloc (by simp) _
  have sz0 : W0.heap.size = T2 + 2 := by rw [← hW0, ← hT2]; simp
  have HB0 : Hid (TripAt W0 T2 g n acc short) := by
    show TripAt _ _ _ _ _ _
    rw [← hW0, ← hT2]
    exact (TripAt.new w g n acc short).below ((Below.refl _ _).alloc (Nat.le_refl _) _)
  have HS20 : Hid (StAt W0 (T2 + 1) D W) := by
    show StAt _ _ _ _
    rw [← hW0, ← hT2]
    have := StAt.new (w.alloc (.cells #[.slice (some ⟨g, 0, none⟩) (n + 1) (n + 1), .int .i64 acc, .int .i64 short] 102)) D W
    rw [World.size_alloc] at this
    exact this
  have HP0 : Hid (P.Spots W0 g n x) := HSP.out.below b0
  have HT0 : Hid (Tab W0 H L) := HT.out.below b0
  have HQ0 : Hid (QAt W0 Q sv len (i + 1) A V) := HQ.out.below b0
  have HS0 : Hid (StAt W0 S d1 v1) := HS.out.below b0
  have hoT2 : sv.ownBlock ≠ some (T2 + 1) := fun e => by have := (HQ.out.own _ e).2; omega
  have bH0 : Below H w W0 := b0.mono (by omega)
  rw [hW0, hT2]
  clear hW0 HSP HT HQ HS b0
  obtain ⟨p0, p1, p2⟩ := HB0.out.cells
  obtain ⟨r0, r1⟩ := HS20.out.cells
  by_cases hdn : D - W < 0
  · have HE : Hid (P.Srch acc x short n L A V len (i + 1)) := ⟨Prof.skip HRT.out (by omega) D0 W0' W1' HR.out.bfs hi HQI.out (Or.inl hdn), HR.out.box, HR.out.low, HR.out.top, HR.out.cnt⟩
    go_wp2_with fail
    go_quiet (fail)
    go_wp2
    have bD : Below W0.heap.size W0 (W0.drewN nq) := below_drewN (Below.refl _ _) _
    exact bodyPost_ret (results_none (by kernel_rfl) _ _ _) rfl ⟨rfl, L, A, V, sv, len, HT0.out.below bD, HQ0.out.below bD, HS0.out.below bD, hoS, HE.out, bH0.trans (bD.mono (by omega))⟩
  · have hdn' : decide (D - W < 0) = false := by simpa using hdn
    obtain ⟨j, hj⟩ : ∃ j : Nat, D - W = (j : Int) := ⟨(D - W).toNat, by omega⟩
    have hjn : j ≤ n := by omega
    obtain ⟨c0, c1⟩ := HP0.out.cells hjn
    have htop := P.top_iff HF.out W0' W1' (show x + (j : Int) ≤ P.fin by omega)
    have HTP : Hid (P.may (x + (j : Int)) W = true ↔ W ≤ P.top (x + (j : Int))) := htop
    obtain ⟨rt0, rt1⟩ := HF.out.rate (x + (j : Int))
    have hjI : (j : Int) < (n : Int) + 1 := by omega
    rw [hj] at hdn'
    clear htop
    by_cases hmo : P.top (x + (j : Int)) < W
    · have HE : Hid (P.Srch acc x short n L A V len (i + 1)) := ⟨Prof.skip HRT.out (by omega) D0 W0' W1' HR.out.bfs hi HQI.out (Or.inr (by rw [hj]; cases c : P.may (x + (j : Int)) W with | false => rfl | true => have := HTP.out.1 c; omega)), HR.out.box, HR.out.low, HR.out.top, HR.out.cnt⟩
      go_wp2_with fail
      go_quiet (fail)
      go_wp2
      have bD : Below W0.heap.size W0 (W0.drewN nq) := below_drewN (Below.refl _ _) _
      exact bodyPost_ret (results_none (by kernel_rfl) _ _ _) rfl ⟨rfl, L, A, V, sv, len, HT0.out.below bD, HQ0.out.below bD, HS0.out.below bD, hoS, HE.out, bH0.trans (bD.mono (by omega))⟩
    · have hmo' : decide (P.top (x + (j : Int)) < W) = false := by simpa using hmo
      have HMY : Hid (P.may (x + (j : Int)) W = true) := HTP.out.2 (by omega)
      have HGO : Hid (∀ v, 0 ≤ v → v ≤ 60 → (P.goes acc x (D - W) v W = true ↔ v - P.rate (x + (j : Int)) ≤ W ∧ W ≤ v + acc)) := fun v q0 q1 => by
        rw [hj, Prof.goes_top HF.out (by omega) q0 q1 (by omega)]
        constructor
        · intro h; omega
        · intro h; omega
      have HST : Hid (P.SrchT acc x short n L A V len i D W (max (W - acc) 0)) := ⟨Prof.Turn.from' HR.out.bfs hi HQI.out (fun v q0 q1 => by cases c : P.goes acc x (D - W) v W with | false => rfl | true => have := (HGO.out v q0 (by omega)).1 c; omega), HR.out.box, HR.out.low, HR.out.top, HR.out.cnt⟩
      have x1 : ∀ w : World, (Instr.indexAt 134 (.pointer (some ⟨H, 0, none⟩)) (.int .i64 j)).run Try.prog w = .ok (.pointer (some ⟨H, j * 61, none⟩)) w := fun w => idx_rounds w H j (by omega)
      have k1 : Try.prog.arrayLen 134 = 2001 := by kernel_rfl
      have k2 : Try.prog.elem 134 = 132 := by kernel_rfl
      have k3 : Try.prog.arrayLen 132 = 61 := by kernel_rfl
      have k4 : Try.prog.elem 132 = 107 := by kernel_rfl
      have eOf : Hid (∀ args w, (callFunc 80 args).run Try.prog w = .ok (.enter 80 args) w) := enters_of Try.func80 (by kernel_rfl) rfl
      go_wp2_with fail
      go_quiet (fail)
      have bD : Below W0.heap.size W0 (W0.drewN nq) := below_drewN (Below.refl _ _) _
      have HB1 : Hid (TripAt (W0.drewN nq) T2 g n acc short) := HB0.out.below bD
      have HS21 : Hid (StAt (W0.drewN nq) (T2 + 1) D W) := HS20.out.below bD
      have HP1 : Hid (P.Spots (W0.drewN nq) g n x) := HP0.out.below bD
      have HT1 : Hid (Tab (W0.drewN nq) H L) := HT0.out.below bD
      have HQ1 : Hid (QAt (W0.drewN nq) Q sv len (i + 1) A V) := HQ0.out.below bD
      have HS1 : Hid (StAt (W0.drewN nq) S d1 v1) := HS0.out.below bD
      have bH1 : Below H w (W0.drewN nq) := bH0.trans (bD.mono (by omega))
      have sz1 : (W0.drewN nq).heap.size = T2 + 2 := by have := bD.size; simp [sz0]
      generalize W0.drewN nq = W1 at *
      clear HB0 HS20 HP0 HT0 HQ0 HS0 bH0 p0 p1 p2 r0 r1 c0 c1 bD HR
      generalize hrt : P.rate (x + (j : Int)) = rt at *
      obtain ⟨m0, hm0⟩ : ∃ m0 : Nat, max (W - acc) 0 = (m0 : Int) := ⟨(max (W - acc) 0).toNat, by omega⟩
      rw [hm0] at HST
      obtain ⟨p0, p1, p2⟩ := HB1.out.cells
      obtain ⟨r0, r1⟩ := HS21.out.cells
      go_wp2_with fail
      clear p0 p1 p2 r0 r1
      go_loopw [9] (fun sq wr => ∃ (m : Nat) (L A V : Nat → Int) (sv : Value) (len : Nat), sq = .int .i64 m ∧ m0 ≤ m ∧ (m : Int) ≤ min (W + rt) 60 + 1 ∧ Hid (P.SrchT acc x short n L A V len i D W m) ∧ Hid (L (stn D W) ≤ 1999) ∧ Hid (TripAt wr T2 g n acc short) ∧ Hid (StAt wr (T2 + 1) D W) ∧ Hid (P.Spots wr g n x) ∧ Hid (Tab wr H L) ∧ Hid (QAt wr Q sv len (i + 1) A V) ∧ Hid (StAt wr S d1 v1) ∧ Hid (sv.ownBlock ≠ some S ∧ sv.ownBlock ≠ some (T2 + 1)) ∧ Hid (Below H w wr) ∧ T2 + 2 ≤ wr.heap.size) (fun sq _ => (min (W + rt) 60 + 1 - intOf sq).toNat)
      case atStart => exact ⟨m0, L, A, V, sv, len, rfl, Nat.le_refl _, by omega, HST.out, hL, HB1.out, HS21.out, HP1.out, HT1.out, HQ1.out, HS1.out, ⟨hoS, hoT2⟩, bH1, by omega⟩
      case round =>
        clear HB1 HS21 HP1 HT1 HQ1 HS1 bH1 HST sz1 hL hoS hoT2 hi HQI
        obtain ⟨m, L, A, V, sv, len, rfl, hm1, hm2, HST, HL9, HB, HS2, HP, HT, HQ, HS, HNE, HBH, hsz⟩ := hrel
        obtain ⟨p0, p1, p2⟩ := HB.out.cells
        obtain ⟨r0, r1⟩ := HS2.out.cells
        obtain ⟨c0, c1⟩ := HP.out.cells hjn
        rw [hrt] at c0
        by_cases hle : (m : Int) ≤ min (W + rt) 60
        · have x2 : ∀ w : World, (Instr.indexAt 132 (.pointer (some ⟨H, j * 61, none⟩)) (.int .i64 m)).run Try.prog w = .ok (.pointer (some ⟨H, j * 61 + m, none⟩)) w := fun w => idx_line w H (j * 61) m (by omega)
          have hst : stn (D - W) m = j * 61 + m := by rw [hj]; unfold stn; omega
          have ct := HT.out.cell (i := stn (D - W) m) (by omega)
          rw [hst] at ct
          have HST' : Hid (stn (D - W) m = j * 61 + m) := hst
          clear hst
          have hlow := HST.out.low (j * 61 + m)
          have htop := HST.out.top (j * 61 + m)
          go_wp2_with fail
          go_quiet (fail)
          have bD : Below wr.heap.size wr (wr.drewN nq) := below_drewN (Below.refl _ _) _
          have HB1 : Hid (TripAt (wr.drewN nq) T2 g n acc short) := HB.out.below bD
          have HS21 : Hid (StAt (wr.drewN nq) (T2 + 1) D W) := HS2.out.below bD
          have HP1 : Hid (P.Spots (wr.drewN nq) g n x) := HP.out.below bD
          have HT1 : Hid (Tab (wr.drewN nq) H L) := HT.out.below bD
          have HQ1 : Hid (QAt (wr.drewN nq) Q sv len (i + 1) A V) := HQ.out.below bD
          have HS1 : Hid (StAt (wr.drewN nq) S d1 v1) := HS.out.below bD
          have HBH1 : Hid (Below H w (wr.drewN nq)) := HBH.out.trans (bD.mono (by omega))
          have sz1 : T2 + 2 ≤ (wr.drewN nq).heap.size := by have := bD.size; omega
          have ct1 : (wr.drewN nq).cell? ⟨H, j * 61 + m, none⟩ = some (.int .i16 (L (j * 61 + m) + 1)) := (bD.cell (p := ⟨H, j * 61 + m, none⟩) HT.out.lt).trans ct
          generalize wr.drewN nq = wq at *
          clear HB HS2 HP HT HQ HS HBH p0 p1 p2 r0 r1 c0 c1 ct bD hsz
          by_cases hneg : L (j * 61 + m) < 0
          · have hm1' : L (j * 61 + m) = -1 := by omega
            rw [hm1'] at ct1
            have hgo : P.goes acc x (D - W) m W = true := (HGO.out m (by omega) (by omega)).2 ⟨by omega, by omega⟩
            have HLS : Hid (0 ≤ L (stn D W)) := by
              have h1 := HST.out.turn.bfs.set i HST.out.turn.lt
              have h2 := HST.out.turn.at'
              show _ ≤ _
              rw [h2] at h1
              exact h1
            have hLS := HLS.out
            have hL9 := HL9.out
            have HSY := HST.out.yes hn (by omega) (by omega) (by omega) (by omega) (by omega) (by rw [HST'.out]; omega) hgo HL9.out
            rw [HST'.out] at HSY
            have HLY : Hid (upd L (j * 61 + m) (L (stn D W) + 1) (stn D W) ≤ 1999) := by
              show _ ≤ _
              rw [upd_other L _ (fun e => by rw [e] at hLS; omega)]
              exact hL9
            have HSY' : Hid (P.SrchT acc x short n (upd L (j * 61 + m) (L (stn D W) + 1)) (upd A len (D - W)) (upd V len m) (len + 1) i D W ((m : Int) + 1)) := HSY
            have hlt2 := HST.out.turn.lt
            have hln : len ≤ 122061 := by rw [← HST.out.cnt]; exact cnt_le _ _
            have ct2 := HT1.out.frozen
            clear HSY hgo HST
            generalize hLv : L (stn D W) = lv at *
            obtain ⟨r0, r1⟩ := HS21.out.cells
            have hSS : (fun y : World => y.cell? ⟨T2 + 1, 0, none⟩ = some (.int .i64 D) ∧ y.cell? ⟨T2 + 1, 1, none⟩ = some (.int .i64 W)) wq.drew := ⟨r0, r1⟩
            go_wp2_with fail
            refine wp_region_held (S := fun y : World => y.cell? ⟨T2 + 1, 0, none⟩ = some (.int .i64 D) ∧ y.cell? ⟨T2 + 1, 1, none⟩ = some (.int .i64 W)) (by kernel_rfl) ?_
            change wpAnyH _ _ _ _ _ 11 _ _ wq.drew
            refine wpAnyH_take (i := 0) (v := .pointer (some ⟨H, 0, none⟩)) rfl (by kernel_rfl) (by kernel_rfl) (by kernel_rfl) (fun _ _ _ h => h) (Or.inl ⟨by rfl, fun y hy => ?_⟩) hSS ?_
            · obtain ⟨q0, q1⟩ := hy
              go_simp
            refine wpAnyH_take (i := 1) (v := .int .i64 (j : Nat)) rfl (by kernel_rfl) (by kernel_rfl) (by kernel_rfl) (fun _ _ _ h => h) (Or.inl ⟨by rfl, fun y hy => ?_⟩) hSS ?_
            · obtain ⟨q0, q1⟩ := hy
              go_simp
            refine wpAnyH_take (i := 2) (v := .int .i64 (m : Nat)) rfl (by kernel_rfl) (by kernel_rfl) (by kernel_rfl) (fun _ _ _ h => h) (Or.inl ⟨by rfl, fun y hy => ?_⟩) hSS ?_
            · obtain ⟨q0, q1⟩ := hy
              go_simp
            refine wpAnyH_take (i := 3) (v := .pointer (some ⟨H, 0, none⟩)) rfl (by kernel_rfl) (by kernel_rfl) (by kernel_rfl) (fun _ _ _ h => h) (Or.inl ⟨by rfl, fun y hy => ?_⟩) hSS ?_
            · obtain ⟨q0, q1⟩ := hy
              go_simp
            refine wpAnyH_take (i := 4) (v := .agg #[.int .i64 D, .int .i64 W]) rfl (by kernel_rfl) (by kernel_rfl) (by kernel_rfl) (fun _ _ _ h => h) (Or.inl ⟨by rfl, fun y hy => ?_⟩) hSS ?_
            · obtain ⟨q0, q1⟩ := hy
              go_simp
            refine wpAnyH_take (i := 7) (v := .pointer (some ⟨H, 0, none⟩)) rfl (by kernel_rfl) (by kernel_rfl) (by kernel_rfl) (fun _ _ _ h => h) (Or.inl ⟨by rfl, fun y hy => ?_⟩) hSS ?_
            · obtain ⟨q0, q1⟩ := hy
              go_simp
            refine wpAnyH_take (i := 8) (v := .pointer (some ⟨H, j * 61, none⟩)) rfl (by kernel_rfl) (by kernel_rfl) (by kernel_rfl) (fun _ _ _ h => h) (Or.inl ⟨by rfl, fun y hy => ?_⟩) hSS ?_
            · obtain ⟨q0, q1⟩ := hy
              go_simp
            refine wpAnyH_one (i := 5) rfl (by kernel_rfl) (fun K hK => ?_)
            refine step_two rfl 80 (.tmp 59) (.tmp 60) _ rfl (.pointer (some ⟨H, 0, none⟩)) (.agg #[.int .i64 D, .int .i64 W]) (by simp [Act.eval, Act.put]) (by simp [Act.eval, Act.put]) eOf.out (of_any wq.drew H L D W HT1.out D0 (by omega) W0' W1') ?_
            rintro e w8 ⟨rfl, hb8⟩
            rw [hLv]
            have q8 : Below wq.heap.size wq w8 := (Below.refl _ _).drew.trans (hb8.mono (by simp))
            have HS28 : Hid (StAt w8 (T2 + 1) D W) := HS21.out.below q8
            have hS8 : (fun y : World => y.cell? ⟨T2 + 1, 0, none⟩ = some (.int .i64 D) ∧ y.cell? ⟨T2 + 1, 1, none⟩ = some (.int .i64 W)) w8 := HS28.out.cells
            refine ⟨_, rfl, hK _ _ hS8 ?_⟩
            clear hK K
            have HB8 : Hid (TripAt w8 T2 g n acc short) := HB1.out.below q8
            have HP8 : Hid (P.Spots w8 g n x) := HP1.out.below q8
            have HT8 : Hid (Tab w8 H L) := HT1.out.below q8
            have HQ8 : Hid (QAt w8 Q sv len (i + 1) A V) := HQ1.out.below q8
            have HS8 : Hid (StAt w8 S d1 v1) := HS1.out.below q8
            have HBH8 : Hid (Below H w w8) := HBH1.out.trans (q8.mono (by have := HT1.out.lt; omega))
            have sz8 : T2 + 2 ≤ w8.heap.size := by have := q8.size; omega
            have ct8 : w8.cell? ⟨H, j * 61 + m, none⟩ = some (.int .i16 0) := (q8.cell (p := ⟨H, j * 61 + m, none⟩) HT1.out.lt).trans ct1
            have cf8 := HT8.out.frozen
            clear hb8 q8 HB1 HS21 HP1 HT1 HQ1 HS1 HBH1 sz1 ct1 ct2 r0 r1 hSS
            refine wpAnyH_one (i := 6) rfl (by kernel_rfl) (fun K hK => ?_)
            go_simp
            rw [wrap16 (by omega) (by omega)]
            refine hK _ _ hS8 ?_
            clear hK K
            refine wpAnyH_take (i := 9) (v := .pointer (some ⟨H, j * 61 + m, none⟩)) rfl (by kernel_rfl) (by kernel_rfl) (by kernel_rfl) (fun _ _ _ h => h) (Or.inl ⟨by rfl, fun y hy => ?_⟩) hS8 ?_
            · go_simp
            refine wpAnyH_one (i := 10) rfl (by kernel_rfl) (fun K hK => ?_)
            go_simp
            obtain ⟨w9, hw9⟩ : ∃ w9, w8.setCell ⟨H, j * 61 + m, none⟩ (.int .i16 (lv + 1 + 1)) = w9 := ⟨_, rfl⟩
            have HT9 : Hid (Tab w9 H (upd L (j * 61 + m) (lv + 1))) := by show Tab _ _ _; rw [← hw9]; exact HT8.out.set _ _
            have HQ9 : Hid (QAt w9 Q sv len (i + 1) A V) := by show QAt _ _ _ _ _ _ _; rw [← hw9]; exact ⟨World.rowIs.setOther HQ8.out.1 (by simp; omega) _, owned_other HQ8.out.2 (by simp; omega) _⟩
            have HB9 : Hid (TripAt w9 T2 g n acc short) := by show TripAt _ _ _ _ _ _; rw [← hw9]; exact World.rowIs.setOther HB8.out (by simp; omega) _
            have HS29 : Hid (StAt w9 (T2 + 1) D W) := by show StAt _ _ _ _; rw [← hw9]; exact World.rowIs.setOther HS28.out (by simp; omega) _
            have HP9 : Hid (P.Spots w9 g n x) := by show Prof.Spots _ _ _ _ _; rw [← hw9]; exact World.rowIs.setOther HP8.out (by simp; omega) _
            have HS9 : Hid (StAt w9 S d1 v1) := by show StAt _ _ _ _; rw [← hw9]; exact World.rowIs.setOther HS8.out (by simp; omega) _
            have HBH9 : Hid (Below H w w9) := by show Below _ _ _; rw [← hw9]; exact HBH8.out.setCell (by simp) _
            have sz9 : T2 + 2 ≤ w9.heap.size := by rw [← hw9]; simpa using sz8
            have hS9 : (fun y : World => y.cell? ⟨T2 + 1, 0, none⟩ = some (.int .i64 D) ∧ y.cell? ⟨T2 + 1, 1, none⟩ = some (.int .i64 W)) w9 := HS29.out.cells
            rw [hw9]
            refine hK _ _ hS9 ?_
            clear hK K hw9 HT8 HQ8 HB8 HS28 HP8 HS8 HBH8 sz8 ct8 cf8 hS8
            refine wpAnyH_done (by kernel_rfl) ?_ _
            go_wp2_with fail
            refine (put_any _ Q sv len (i + 1) A V (j : Int) (m : Int) HQ9.out (by omega)).mono ?_
            rintro e w10 ⟨rfl, sv', hq10, hh10⟩
            have hown := HQ9.out.own
            have HT10 : Hid (Tab w10 H (upd L (j * 61 + m) (lv + 1))) := hh10.row HT9.out (by omega) (fun e => by have := hown _ e; omega)
            have HB10 : Hid (TripAt w10 T2 g n acc short) := hh10.row HB9.out (by omega) (HQ9.out.own_ne HB9.out (Or.inl (by decide)))
            have HS210 : Hid (StAt w10 (T2 + 1) D W) := hh10.row HS29.out (by omega) HNE.out.2
            have HP10 : Hid (P.Spots w10 g n x) := hh10.row HP9.out (by omega) (fun e => by have := hown _ e; omega)
            have HS10 : Hid (StAt w10 S d1 v1) := hh10.row HS9.out (by omega) HNE.out.1
            have HNE10 : Hid (sv'.ownBlock ≠ some S ∧ sv'.ownBlock ≠ some (T2 + 1)) := ⟨hq10.own_ne HS10.out (Or.inr (by omega)), hq10.own_ne HS210.out (Or.inr (by omega))⟩
            have HBH10 : Hid (Below H w w10) := HBH9.out.trans (hh10.below (by omega) (by have := HT9.out.lt; omega) (fun k e => (hown _ e).1))
            have sz10 : T2 + 2 ≤ w10.heap.size := Nat.le_trans sz9 hh10.size
            have HQ10 : Hid (QAt w10 Q sv' (len + 1) (i + 1) (upd A len (j : Int)) (upd V len (m : Int))) := hq10
            rw [hj] at HSY'
            clear hq10 hh10 hown HT9 HB9 HS29 HP9 HS9 HBH9 HQ9 HNE sz9 hS9
            go_wp2
            go_roundw
            case rel => exact ⟨m + 1, upd L (j * 61 + m) (lv + 1), upd A len (j : Int), upd V len (m : Int), sv', len + 1, by go_num, by omega, by omega, HSY'.out, HLY.out, HB10.out, HS210.out, HP10.out, HT10.out, HQ10.out, HS10.out, HNE10.out, HBH10.out, sz10⟩
            case measure => simp [intOf]; omega
          · have hne : (L (j * 61 + m) + 1 == 0) = false := by simp; omega
            have HSN : Hid (P.SrchT acc x short n L A V len i D W ((m : Int) + 1)) := HST.out.no (by rw [HST'.out]; omega)
            go_wp2
            go_roundw
            case rel => exact ⟨m + 1, L, A, V, sv, len, by go_num, by omega, by omega, HSN.out, HL9.out, HB1.out, HS21.out, HP1.out, HT1.out, HQ1.out, HS1.out, HNE.out, HBH1.out, sz1⟩
            case measure => simp [intOf]; omega
        · have hle' : decide ((m : Int) ≤ min (W + rt) 60) = false := by simpa using hle
          have HSR : Hid (P.Srch acc x short n L A V len (i + 1)) := ⟨Prof.Turn.next HRT.out (by omega) D0 W0' W1' (HST.out.turn.to' (fun v q0 q1 => by cases c : P.goes acc x (D - W) v W with | false => rfl | true => have := (HGO.out v (by omega) q1).1 c; omega)), HST.out.box, HST.out.low, HST.out.top, HST.out.cnt⟩
          go_wp2_with fail
          go_quiet (fail)
          have bD : Below wr.heap.size wr (wr.drewN nq) := below_drewN (Below.refl _ _) _
          go_wp2
          exact bodyPost_end (results_none (by kernel_rfl) _ _ _) rfl ⟨rfl, L, A, V, sv, len, HT.out.below bD, HQ.out.below bD, HS.out.below bD, HNE.out.1, HSR.out, HBH.out.trans (bD.mono (by have := HT.out.lt; omega))⟩

end Go.Proofs.Yteodefmpkljedaa
