/-
  The program's course as one piece, with the weakest brake ahead.
-/
import Derived.Test.YteodefmpkljedaaCourse3
namespace Go.Proofs.Yteodefmpkljedaa
open Go.RowKit
attribute [local go_sem ↓] Go.wp_at_zero Go.wp_at_succ
set_option linter.unusedVariables false

theorem Prof.WayIs.parts {P : Prof} {w : World} {ap az : Option Addr} {cp cz g : Nat} (h : P.WayIs w (.agg #[.slice ap P.np cp, .slice az P.nz cz, .int .i64 P.train, .int .i64 P.fin, .int .i64 P.delay, .slice (some ⟨g, 0, none⟩) P.np P.np])) : P.np ≤ cp ∧ Row2 w ap P.np P.L P.B ∧ Row3 w az P.nz P.F P.T P.S ∧ w.rowIs g 3 P.np (endOf P.L) ∧ P.nz ≤ 9223372036854775807 := by
  obtain ⟨ap', cp', az', cz', g', e, h1, h2, h3, h4, h5⟩ := h
  simp at e
  obtain ⟨⟨rfl, rfl⟩, ⟨rfl, rfl⟩, rfl⟩ := e
  exact ⟨h1.2, h3, h4, h5, h2⟩

set_option maxRecDepth 20000 in
set_option maxHeartbeats 40000000 in
theorem asWeakest_any (P : Prof) (v : Value) (x : Int) (w : World) (hc : P.CourseIs w v) (hok : P.Ok) :
    Calls Try.prog 103 #[v, .int .i64 x] w fun e w' => ∃ v', e = .returned v' ∧ (P.weak x).CourseIs w' v' ∧ Below w.heap.size w w' := by
  have HC : Hid (P.CourseIs w v) := hc
  obtain ⟨ap, cp, az, cz, g, h, nb, cn, b, rfl, hway, hn, hrow, hB⟩ := hc
  have HWAY : Hid (P.WayIs w (.agg #[.slice ap P.np cp, .slice az P.nz cz, .int .i64 P.train, .int .i64 P.fin, .int .i64 P.delay, .slice (some ⟨g, 0, none⟩) P.np P.np])) := hway
  obtain ⟨hcp, hr2, hr3, hends, hnz⟩ := hway.parts
  have HR3 : Hid (Row3 w az P.nz P.F P.T P.S) := hr3
  have HEN : Hid (w.rowIs g 3 P.np (endOf P.L)) := hends
  have HROW : Hid (BRow w h nb b) := hrow
  have HB : Hid (P.Bounds nb b) := hB
  have HOK : Hid P.Ok := hok
  have h1 := hok.counts.1
  have h60 := hok.counts.2.1
  have hpl := P.piece_lt h1 x
  obtain ⟨hs1, hs2⟩ := P.span_le h1 x
  rcases hr2 with h0 | ⟨bb, off, rfl, hbb, hcc⟩
  · omega
  have HCC : Hid (∀ j, j < P.np → w.cell? ⟨bb, off + j * 2, none⟩ = some (.int .i64 (P.L j)) ∧ w.cell? ⟨bb, off + j * 2 + 1, none⟩ = some (.int .i64 (P.B j))) := hcc
  have HEND : Hid ((if P.piece x < P.piece P.fin then (P.piece P.fin : Int) else P.piece x) + 1 = (P.piece x : Int) + P.span x) := by
    show _ = _
    unfold Prof.span
    split <;> omega
  clear hway hrow hB hok hcc hr3 hends
  go_enter Try.func103, Try.ntmps103
  go_wp2_with fail
  generalize hW : (w.alloc _).alloc _ = W
  have bW : Below w.heap.size w W := by rw [← hW]; exact ((Below.refl _ _).alloc (Nat.le_refl _) _).alloc (by simp) _
  have sW : W.heap.size = w.heap.size + 1 + 1 := by rw [← hW]; simp
  have HX : Hid (P.CBox W w.heap.size (some ⟨bb, off, none⟩) az cp cz g h nb cn) := by subst hW; exact ⟨by go_simp, by go_simp, by go_simp, by go_simp, by go_simp, by go_simp, by go_simp⟩
  have HXR : Hid (W.rowIs w.heap.size 71 7 (fun i => #[Value.slice (some ⟨bb, off, none⟩) P.np cp, Value.slice az P.nz cz, Value.int .i64 P.train, Value.int .i64 P.fin, Value.int .i64 P.delay, Value.slice (some ⟨g, 0, none⟩) P.np P.np, Value.slice (some ⟨h, 0, none⟩) nb cn][i]!)) := by
    have := World.rowIs_alloc w #[Value.slice (some ⟨bb, off, none⟩) P.np cp, Value.slice az P.nz cz, Value.int .i64 P.train, Value.int .i64 P.fin, Value.int .i64 P.delay, Value.slice (some ⟨g, 0, none⟩) P.np P.np, Value.slice (some ⟨h, 0, none⟩) nb cn] 71 (fun i => #[Value.slice (some ⟨bb, off, none⟩) P.np cp, Value.slice az P.nz cz, Value.int .i64 P.train, Value.int .i64 P.fin, Value.int .i64 P.delay, Value.slice (some ⟨g, 0, none⟩) P.np P.np, Value.slice (some ⟨h, 0, none⟩) nb cn][i]!) (fun i hi => by simp at hi; simp [hi])
    show World.rowIs _ _ _ _ _
    rw [← hW]
    exact (by simpa using this.alloc _)
  have HZ : Hid (W.rowIs (w.heap.size + 1) 71 7 courseZ) := by
    have := World.rowIs_alloc (w.alloc (.cells #[.slice (some ⟨bb, off, none⟩) P.np cp, .slice az P.nz cz, .int .i64 P.train, .int .i64 P.fin, .int .i64 P.delay, .slice (some ⟨g, 0, none⟩) P.np P.np, .slice (some ⟨h, 0, none⟩) nb cn] 71)) #[Value.slice none 0 0, Value.slice none 0 0, Value.int .i64 0, Value.int .i64 0, Value.int .i64 0, Value.slice none 0 0, Value.slice none 0 0] 71 courseZ (fun i hi => by simp at hi; simp [courseZ, hi])
    show World.rowIs _ _ _ _ _
    rw [← hW]
    exact (by simpa using this)
  clear hW
  have cP : ∀ d os y, Calls Try.prog 117 #[.agg #[.slice (some ⟨bb, off, none⟩) P.np cp, .slice az P.nz cz, .int .i64 P.train, .int .i64 P.fin, .int .i64 P.delay, .slice (some ⟨g, 0, none⟩) P.np P.np], .int .i64 y] (Sort.grow (redrawn W d) os) fun e w'' => e = .returned (.int .i64 (P.piece y)) ∧ ∃ p : Regrown, w'' = Sort.grow (redrawn W p.d) p.os := fun d os y => Calls.regrown_of (pieceAt_any P _ y _ (HWAY.out.below (bW.trans ((below_regrown W d os).mono bW.size))) HOK.out.lens.up h1)
  have hbx := HX.out
  obtain ⟨x0, x1, x2, x3, x4, x5, x6⟩ := hbx
  have y0 := cell_regrown x0
  have y1 := cell_regrown x1
  have y2 := cell_regrown x2
  have y3 := cell_regrown x3
  have y4 := cell_regrown x4
  have y5 := cell_regrown x5
  clear x0 x1 x2 x3 x4 x5 x6
  refine wp_region_quiet_below (by kernel_rfl) (by kernel_rfl) ?_
  repeat (go_big_quiet_step (exact cP _ _ _))
  refine wpQuiet_nil ?_
  intro _ hw'
  obtain ⟨⟨dq, osq⟩, hw''⟩ := hw'
  subst hw''
  have hq := below_regrown W dq osq
  clear y0 y1 y2 y3 y4 y5 cP
  generalize Sort.grow (redrawn W dq) osq = W2 at *
  have b2 : Below w.heap.size w W2 := bW.trans (hq.mono bW.size)
  have HX2 : Hid (P.CBox W2 w.heap.size (some ⟨bb, off, none⟩) az cp cz g h nb cn) := HX.out.below hq
  obtain ⟨x0, x1, x2, x3, x4, x5, x6⟩ := HX2.out
  have HWK : Hid (P.weakest x = minB P.B (P.piece x) (P.span x)) := rfl
  generalize P.piece x = p at *
  generalize P.piece P.fin = q at *
  generalize hsp : P.span x = sp at *
  clear hsp
  obtain ⟨m, hmx, hm1⟩ : ∃ m : Nat, max (p : Int) (q : Int) = (m : Int) ∧ m + 1 = p + sp := by
    refine ⟨p + sp - 1, ?_, by omega⟩
    have := HEND.out
    split at this <;> omega
  have hm2 : p ≤ m := by omega
  have hm3 : m < P.np := by omega
  have hm4 : (m : Int) + 1 ≤ (cp : Int) := by omega
  have hm5 : m + 1 - p = sp := by omega
  go_wp2_with fail
  go_loopw [7, 33] (fun sw i wr => ∃ k : Nat, k ≤ sp ∧ i = .int .i64 k ∧ sw = .int .i64 (minB P.B p k) ∧ Hid (Below W2.heap.size W2 wr)) (fun _ i _ => sp - (intOf i).toNat)
  case atStart => exact ⟨0, Nat.zero_le _, rfl, rfl, Below.refl _ _⟩
  case round =>
    clear x0 x1 x2 x3 x4 x5 x6 HEND hmx
    obtain ⟨k, hk, rfl, rfl, HQ⟩ := hrel
    have bq : Below w.heap.size w wr := b2.trans (HQ.out.mono b2.size)
    by_cases hlt : k < sp
    · have hkI : (k : Int) < (sp : Int) := by omega
      have c0 : wr.cell? ⟨bb, off + p * 2 + k * 2, none⟩ = some (.int .i64 (P.L (p + k))) := by rw [bq.cell hbb, show off + p * 2 + k * 2 = off + (p + k) * 2 by omega]; exact (HCC.out (p + k) (by omega)).1
      have c1 : wr.cell? ⟨bb, off + p * 2 + k * 2 + 1, none⟩ = some (.int .i64 (P.B (p + k))) := by rw [bq.cell hbb, show off + p * 2 + k * 2 + 1 = off + (p + k) * 2 + 1 by omega]; exact (HCC.out (p + k) (by omega)).2
      have hmn : min (minB P.B p k) (P.B (p + k)) = minB P.B p (k + 1) := by
        conv => rhs; unfold minB
        split <;> omega
      go_wp2
      go_roundw
      case rel => exact ⟨k + 1, by omega, by go_num, rfl, HQ.out.alloc HQ.out.size _⟩
      case measure => simp [intOf]; omega
    · have ek : k = sp := by omega
      subst ek
      rw [← HWK.out]
      obtain ⟨wk, hwk⟩ : ∃ wk, P.weakest x = wk := ⟨_, rfl⟩
      rw [hwk]
      have HWX : Hid (P.weakest x = wk) := hwk
      obtain ⟨tt, htt⟩ : ∃ tt, P.total = tt := ⟨_, rfl⟩
      have HTT : Hid (P.total = tt) := htt
      have ce : wr.cell? ⟨g, P.np - 1, none⟩ = some (.int .i64 tt) := by
        rw [(rowIs_below HEN.out bq).cell (by omega), endOf, show P.np - 1 + 1 = P.np by omega, ← htt]; rfl
      have HXr : Hid (P.CBox wr w.heap.size (some ⟨bb, off, none⟩) az cp cz g h nb cn) := HX2.out.below HQ.out
      have sr := HQ.out.size
      have sq := hq.size
      clear hwk htt
      obtain ⟨x0, x1, x2, x3, x4, x5, x6⟩ := HXr.out
      have HXRr : Hid (wr.rowIs w.heap.size 71 7 (fun i => #[Value.slice (some ⟨bb, off, none⟩) P.np cp, Value.slice az P.nz cz, Value.int .i64 P.train, Value.int .i64 P.fin, Value.int .i64 P.delay, Value.slice (some ⟨g, 0, none⟩) P.np P.np, Value.slice (some ⟨h, 0, none⟩) nb cn][i]!)) := rowIs_below (rowIs_below HXR.out hq) HQ.out
      have HZr : Hid (wr.rowIs (w.heap.size + 1) 71 7 courseZ) := rowIs_below (rowIs_below HZ.out hq) HQ.out
      obtain ⟨W3, hW3⟩ : ∃ W3, wr.alloc (.cells #[.int .i64 tt, .int .i64 wk] 53) = W3 := ⟨_, rfl⟩
      have s3 : W3.heap.size = wr.heap.size + 1 := by rw [← hW3]; simp
      have HX3 : Hid (W3.rowIs w.heap.size 71 7 (fun i => #[Value.slice (some ⟨bb, off, none⟩) P.np cp, Value.slice az P.nz cz, Value.int .i64 P.train, Value.int .i64 P.fin, Value.int .i64 P.delay, Value.slice (some ⟨g, 0, none⟩) P.np P.np, Value.slice (some ⟨h, 0, none⟩) nb cn][i]!)) := by show World.rowIs _ _ _ _ _; rw [← hW3]; exact HXRr.out.alloc _
      have HP3 : Hid (W3.rowIs wr.heap.size 53 2 (fun i => #[Value.int .i64 tt, Value.int .i64 wk][i]!)) := by
        show World.rowIs _ _ _ _ _
        rw [← hW3]
        exact World.rowIs_alloc wr #[.int .i64 tt, .int .i64 wk] 53 _ (fun i hi => by simp at hi; simp [hi])
      have b3 : Below w.heap.size w W3 := by rw [← hW3]; exact bq.alloc bq.size _
      have HZ3 : Hid (W3.rowIs (w.heap.size + 1) 71 7 courseZ) := by show World.rowIs _ _ _ _ _; rw [← hW3]; exact HZr.out.alloc _
      obtain ⟨W5, hW5⟩ : ∃ W5, (W3.setCell ⟨w.heap.size, 0, none⟩ (.slice (some ⟨wr.heap.size, 0, none⟩) 1 1)).alloc (.cells #[.int .i64 tt] 3) = W5 := ⟨_, rfl⟩
      have HX5 : Hid (W5.rowIs w.heap.size 71 7 (fun i => #[Value.slice (some ⟨wr.heap.size, 0, none⟩) 1 1, Value.slice az P.nz cz, Value.int .i64 P.train, Value.int .i64 P.fin, Value.int .i64 P.delay, Value.slice (some ⟨g, 0, none⟩) P.np P.np, Value.slice (some ⟨h, 0, none⟩) nb cn][i]!)) := by
        show World.rowIs _ _ _ _ _
        rw [← hW5]
        refine ((HX3.out.set 0 _).congr (fun i hi => ?_)).alloc _
        match i, hi with
        | 0, _ => rfl
        | 1, _ => rfl
        | 2, _ => rfl
        | 3, _ => rfl
        | 4, _ => rfl
        | 5, _ => rfl
        | 6, _ => rfl
      have HE5 : Hid (W5.rowIs (wr.heap.size + 1) 3 1 (fun i => #[Value.int .i64 tt][i]!)) := by
        show World.rowIs _ _ _ _ _
        have := World.rowIs_alloc (W3.setCell ⟨w.heap.size, 0, none⟩ (.slice (some ⟨wr.heap.size, 0, none⟩) 1 1)) #[.int .i64 tt] 3 (fun i => #[Value.int .i64 tt][i]!) (fun i hi => by simp at hi; simp [hi])
        rw [hW5] at this
        simpa [s3, World.setCell] using this
      have HP5 : Hid (W5.rowIs wr.heap.size 53 2 (fun i => #[Value.int .i64 tt, Value.int .i64 wk][i]!)) := by show World.rowIs _ _ _ _ _; rw [← hW5]; exact (HP3.out.setOther (by simp; omega) _).alloc _
      have b5 : Below w.heap.size w W5 := by rw [← hW5]; exact (b3.setCell (by simp) _).alloc (by have := b3.size; simp [World.setCell]; omega) _
      have HZ5 : Hid (W5.rowIs (w.heap.size + 1) 71 7 courseZ) := by show World.rowIs _ _ _ _ _; rw [← hW5]; exact (HZ3.out.setOther (by simp) _).alloc _
      have u0 := HX3.out.cell (i := 0) (by omega)
      have uf := HX3.out.frozen
      have v0 := HX5.out.cell (i := 0) (by omega)
      have v1 := HX5.out.cell (i := 1) (by omega)
      have v2 := HX5.out.cell (i := 2) (by omega)
      have v3 := HX5.out.cell (i := 3) (by omega)
      have v4 := HX5.out.cell (i := 4) (by omega)
      have v5 := HX5.out.cell (i := 5) (by omega)
      have v6 := HX5.out.cell (i := 6) (by omega)
      have vf := HX5.out.frozen
      have k0 := HZ5.out.cell (i := 0) (by omega)
      have k1 := HZ5.out.cell (i := 1) (by omega)
      have k2 := HZ5.out.cell (i := 2) (by omega)
      have k3 := HZ5.out.cell (i := 3) (by omega)
      have k4 := HZ5.out.cell (i := 4) (by omega)
      have k5 := HZ5.out.cell (i := 5) (by omega)
      have k6 := HZ5.out.cell (i := 6) (by omega)
      have kf := HZ5.out.frozen
      simp only [courseZ] at k0 k1 k2 k3 k4 k5 k6
      go_wp2
      refine bodyPost_ret (v := .agg #[.slice (some ⟨wr.heap.size, 0, none⟩) 1 1, .slice az P.nz cz, .int .i64 P.train, .int .i64 P.fin, .int .i64 P.delay, .slice (some ⟨wr.heap.size + 1, 0, none⟩) 1 1, .slice (some ⟨h, 0, none⟩) nb cn]) (by simp [results, Try.results103, go_sem, *]) rfl ?_
      generalize hF : (((((((W5.setCell _ _).setCell _ _).setCell _ _).setCell _ _).setCell _ _).setCell _ _).setCell _ _).setCell _ _ = F
      have bF : Below w.heap.size w F := by
        rw [← hF]
        iterate 8 refine Below.setCell ?_ (by simp) _
        exact b5
      have rp : F.rowIs wr.heap.size 53 2 (fun i => #[Value.int .i64 tt, Value.int .i64 wk][i]!) := by
        rw [← hF]
        iterate 8 refine World.rowIs.setOther ?_ (by simp; omega) _
        exact HP5.out
      have re : F.rowIs (wr.heap.size + 1) 3 1 (fun i => #[Value.int .i64 tt][i]!) := by
        rw [← hF]
        iterate 8 refine World.rowIs.setOther ?_ (by simp; omega) _
        exact HE5.out
      refine ⟨_, rfl, ⟨some ⟨wr.heap.size, 0, none⟩, 1, az, cz, wr.heap.size + 1, h, nb, cn, b, rfl, ⟨some ⟨wr.heap.size, 0, none⟩, 1, az, cz, wr.heap.size + 1, rfl, ⟨by show 1 ≤ _; omega, Nat.le_refl _⟩, hnz, ?_, HR3.out.below bF, ?_⟩, hn, HROW.out.below bF, Prof.weak_bounds HB.out x⟩, bF⟩
      · refine Or.inr ⟨wr.heap.size, 0, rfl, rp.lt, fun j hj => ?_⟩
        have hj0 : j = 0 := by have : j < 1 := hj; omega
        subst hj0
        have q0 := rp.cell (i := 0) (by omega)
        have q1 := rp.cell (i := 1) (by omega)
        show _ = some (Value.int .i64 P.total) ∧ _ = some (Value.int .i64 (P.weakest x))
        rw [HTT.out, HWX.out]
        exact ⟨q0, q1⟩
      · refine re.congr (fun i hi => ?_)
        have hi0 : i = 0 := by omega
        subst hi0
        show Value.int .i64 tt = endOf (fun _ => P.total) 0
        rw [HTT.out]
        simp [endOf, sumTo]

/-- The program's question to the weak course. -/
def Prof.bad (P : Prof) (x s : Int) : Bool := !(P.weak x).isSafe x s
theorem Prof.Ok.bad_mono {P : Prof} (h : P.Ok) (x : Int) : ∀ i j, 0 ≤ i → i ≤ j → P.bad x i = true → P.bad x j = true := by
  intro i j h0 hij hb
  unfold Prof.bad at *
  cases c : (P.weak x).isSafe x j with
  | false => rfl
  | true =>
    exfalso
    unfold Prof.isSafe at *
    simp at c
    obtain ⟨⟨_, c1⟩, c2⟩ := c
    have := h.weak_mono h0 hij c1 c2
    rw [this] at hb
    simp at hb
    omega
theorem Prof.Ok.bad_found {P : Prof} (h : P.Ok) {x m : Int} (f : Found (P.bad x) 0 10001 m) : ∀ u, 0 ≤ u → u < m → P.safe 0 x u = true := by
  intro u h0 hu
  have := f.2.2.1 u h0 hu
  unfold Prof.bad Prof.isSafe at this
  simp at this
  exact h.weak_safe h0 (this.1.2) this.2

set_option maxHeartbeats 4000000 in
theorem mostNow1_any (P : Prof) (x s : Int) (w : World) (B1 B2 : Nat) (ap az : Option Addr) (cp cz g h n cn : Nat) (hx : (P.weak x).CBox w B1 ap az cp cz g h n cn) (hx2 : w.cell? ⟨B2, 0, none⟩ = some (.int .i64 x))
    (hc : (P.weak x).CourseIs w (.agg #[.slice ap (P.weak x).np cp, .slice az (P.weak x).nz cz, .int .i64 (P.weak x).train, .int .i64 (P.weak x).fin, .int .i64 (P.weak x).delay, .slice (some ⟨g, 0, none⟩) (P.weak x).np (P.weak x).np, .slice (some ⟨h, 0, none⟩) n cn])) (hf : (P.weak x).Fit) (hx0 : 0 ≤ x) (hx1 : x ≤ 100000000) :
    Calls Try.prog 104 #[.int .i64 s, .pointer (some ⟨B1, 0, none⟩), .pointer (some ⟨B2, 0, none⟩)] w fun e w' => e = .returned (.bool (P.bad x s)) ∧ Below w.heap.size w w' := by
  have hcon := fun w' (hb : Below w.heap.size w w') => isSafe_any (P.weak x) _ x s w' (hc.below hb) hf hx0 hx1
  have HCON : Hid (∀ w', Below w.heap.size w w' → Calls Try.prog 47 #[.agg #[.slice ap (P.weak x).np cp, .slice az (P.weak x).nz cz, .int .i64 (P.weak x).train, .int .i64 (P.weak x).fin, .int .i64 (P.weak x).delay, .slice (some ⟨g, 0, none⟩) (P.weak x).np (P.weak x).np, .slice (some ⟨h, 0, none⟩) n cn], .int .i64 x, .int .i64 s] w' fun e w'' => e = .returned (.bool ((P.weak x).isSafe x s)) ∧ Below w'.heap.size w' w'') := hcon
  have HE : Hid (P.bad x s = !(P.weak x).isSafe x s) := rfl
  obtain ⟨x0, x1, x2, x3, x4, x5, x6⟩ := hx
  generalize (P.weak x).isSafe x s = r at HCON HE
  generalize P.weak x = Q at *
  clear hc hcon hf
  go_enter Try.func104, Try.ntmps104
  go_wp2_with fail
  refine (HCON.out _ (Below.refl _ _)).mono ?_
  rintro e w2 ⟨rfl, hb2⟩
  cases r
  all_goals go_wp2
  all_goals go_ret
  all_goals exact ⟨ret_bool HE.out.symm, hb2⟩

set_option maxHeartbeats 4000000 in
theorem leastBad_any (P : Prof) (x : Int) (w : World) (B1 B2 : Nat) (hx2 : w.cell? ⟨B2, 0, none⟩ = some (.int .i64 x)) (hcx : ∃ ap cp az cz g h n cn, (P.weak x).CBox w B1 ap az cp cz g h n cn ∧ (P.weak x).CourseIs w (.agg #[.slice ap (P.weak x).np cp, .slice az (P.weak x).nz cz, .int .i64 (P.weak x).train, .int .i64 (P.weak x).fin, .int .i64 (P.weak x).delay, .slice (some ⟨g, 0, none⟩) (P.weak x).np (P.weak x).np, .slice (some ⟨h, 0, none⟩) n cn])) (hok : P.Ok) (hx0 : 0 ≤ x) (hx1 : x ≤ 100000000) :
    Calls Try.prog 58 #[.int .i64 0, .int .i64 10001, .func (.func 104) #[] #[.pointer (some ⟨B1, 0, none⟩), .pointer (some ⟨B2, 0, none⟩)]] w fun e w' => ∃ m, e = .returned (.int .i64 m) ∧ (0 ≤ m ∧ m ≤ 10001) ∧ Found (P.bad x) 0 10001 m ∧ Below w.heap.size w w' := by
  obtain ⟨ap, cp, az, cz, g, h, n, cn, hbx, hcs⟩ := hcx
  have l2 := World.block_lt_of_cell? _ _ hx2
  have HC : Hid (∀ s wr, Below w.heap.size w wr → Calls Try.prog 104 #[.int .i64 s, .pointer (some ⟨B1, 0, none⟩), .pointer (some ⟨B2, 0, none⟩)] wr fun e w' => e = .returned (.bool (P.bad x s)) ∧ Below wr.heap.size wr w') := fun s wr hb => mostNow1_any P x s wr B1 B2 ap az cp cz g h n cn (hbx.below hb) ((hb.cell (p := ⟨B2, 0, none⟩) l2).trans hx2) (hcs.below hb) (hok.weakFit x) hx0 hx1
  have HMO : Hid (∀ i j, 0 ≤ i → i ≤ j → P.bad x i = true → P.bad x j = true) := hok.bad_mono x
  clear hbx hcs hok hx2 l2
  go_enter Try.func58, Try.ntmps58
  go_wp2
  go_loopw [0, 1] (fun l h wr => ∃ lo hi : Int, l = .int .i64 lo ∧ h = .int .i64 hi ∧ 0 ≤ lo ∧ lo ≤ hi ∧ hi ≤ 10001 ∧ Hid ((∀ y, 0 ≤ y → y < lo → P.bad x y = false) ∧ (∀ y, hi ≤ y → y < 10001 → P.bad x y = true)) ∧ Below w.heap.size w wr) (fun l h _ => (intOf h - intOf l).toNat)
  case atStart => exact ⟨0, 10001, rfl, rfl, by omega, by omega, by omega, Found.start, Below.refl _ _⟩
  case round =>
    obtain ⟨lo, hi, rfl, rfl, h1, h2, h3, H, hbel⟩ := hrel
    by_cases hlt : lo < hi
    · by_cases hp : P.bad x (lo + (hi - lo) / 2) = true
      · go_wp2_with (go_at_call 104; refine (HC.out _ _ hbel).mono ?_; rintro e w2 ⟨rfl, hb2⟩)
        go_roundw
        case rel => exact ⟨lo, lo + (hi - lo) / 2, rfl, rfl, by omega, by omega, by omega, ⟨H.out.1, fun y hy hy' => HMO.out _ _ (by omega) hy hp⟩, hbel.trans (hb2.mono hbel.size)⟩
        case measure => simp [intOf]; omega
      · have hp' : P.bad x (lo + (hi - lo) / 2) = false := by simpa using hp
        clear hp
        go_wp2_with (go_at_call 104; refine (HC.out _ _ hbel).mono ?_; rintro e w2 ⟨rfl, hb2⟩)
        go_roundw
        case rel =>
          refine ⟨lo + (hi - lo) / 2 + 1, hi, rfl, rfl, by omega, by omega, by omega, ⟨fun y hy hy' => ?_, H.out.2⟩, hbel.trans (hb2.mono hbel.size)⟩
          cases hc : P.bad x y with
          | false => rfl
          | true => rw [HMO.out y (lo + (hi - lo) / 2) hy (by omega) hc] at hp'; cases hp'
        case measure => simp [intOf]; omega
    · have he : hi = lo := by omega
      subst he
      go_wp2
      go_ret
      exact ⟨hi, rfl, ⟨h1, h3⟩, ⟨h1, h3, H.out⟩, hbel⟩

set_option maxRecDepth 20000 in
set_option maxHeartbeats 8000000 in
theorem mostNow_any (P : Prof) (v : Value) (x : Int) (w : World) (hc : P.CourseIs w v) (hok : P.Ok) (hx0 : 0 ≤ x) (hx1 : x ≤ 100000000) :
    Calls Try.prog 68 #[v, .int .i64 x] w fun e w' => e = .returned (.int .i64 (P.most x)) ∧ Below w.heap.size w w' := by
  have HC : Hid (P.CourseIs w v) := hc
  obtain ⟨ap, cp, az, cz, g, h, nb, cn, b, rfl, hc⟩ := hc
  have HOK : Hid P.Ok := hok
  have hmf : ∀ (fn : Fn) (first cap : Array Value) (w : World), (Instr.makeFunc fn first cap).run Try.prog w = .ok (.func fn first cap) w := fun _ _ _ _ => rfl
  clear hc hok
  go_enter Try.func68, Try.ntmps68
  go_wp2_with fail
  generalize hW : (w.alloc _).alloc _ = W
  have bW : Below w.heap.size w W := by rw [← hW]; exact ((Below.refl _ _).alloc (Nat.le_refl _) _).alloc (by simp) _
  have sW : W.heap.size = w.heap.size + 1 + 1 := by rw [← hW]; simp
  have HX : Hid (P.CBox W w.heap.size ap az cp cz g h nb cn) := by subst hW; exact ⟨by go_simp, by go_simp, by go_simp, by go_simp, by go_simp, by go_simp, by go_simp⟩
  have hcx : W.cell? ⟨w.heap.size + 1, 0, none⟩ = some (.int .i64 x) := by subst hW; go_simp
  clear hW
  refine (asWeakest_any P _ x _ (HC.out.below bW) HOK.out).mono ?_
  rintro e w2 ⟨v', rfl, hc2, hb2⟩
  have b2 := bW.trans (hb2.mono bW.size)
  have s2 := hb2.size
  have HX2 : Hid (P.CBox w2 w.heap.size ap az cp cz g h nb cn) := HX.out.below hb2
  have hcx2 : w2.cell? ⟨w.heap.size + 1, 0, none⟩ = some (.int .i64 x) := (hb2.cell (p := ⟨w.heap.size + 1, 0, none⟩) (by show w.heap.size + 1 < _; omega)).trans hcx
  have HK2 : Hid ((P.weak x).CourseIs w2 v') := hc2
  obtain ⟨ap', cp', az', cz', g', h', nb', cn', b', rfl, hc2⟩ := hc2
  obtain ⟨W3, hW3⟩ : ∃ W3, w2.alloc (.cells #[.slice ap' (P.weak x).np cp', .slice az' (P.weak x).nz cz', .int .i64 (P.weak x).train, .int .i64 (P.weak x).fin, .int .i64 (P.weak x).delay, .slice (some ⟨g', 0, none⟩) (P.weak x).np (P.weak x).np, .slice (some ⟨h', 0, none⟩) nb' cn'] 71) = W3 := ⟨_, rfl⟩
  have bq : Below w2.heap.size w2 W3 := by rw [← hW3]; exact (Below.refl _ _).alloc (Nat.le_refl _) _
  have b3 := b2.trans (bq.mono b2.size)
  have HK3 : Hid ((P.weak x).CBox W3 w2.heap.size ap' az' cp' cz' g' h' nb' cn') := by show Prof.CBox _ _ _ _ _ _ _ _ _ _ _; subst hW3; exact ⟨by go_simp, by go_simp, by go_simp, by go_simp, by go_simp, by go_simp, by go_simp⟩
  have HL : Hid (Calls Try.prog 58 #[.int .i64 0, .int .i64 10001, .func (.func 104) #[] #[.pointer (some ⟨w2.heap.size, 0, none⟩), .pointer (some ⟨w.heap.size + 1, 0, none⟩)]] W3 fun e w' => ∃ m, e = .returned (.int .i64 m) ∧ (0 ≤ m ∧ m ≤ 10001) ∧ Found (P.bad x) 0 10001 m ∧ Below W3.heap.size W3 w') := by
    refine leastBad_any P x W3 w2.heap.size (w.heap.size + 1) ?_ ⟨ap', cp', az', cz', g', h', nb', cn', HK3.out, HK2.out.below bq⟩ HOK.out hx0 hx1
    exact (bq.cell (p := ⟨w.heap.size + 1, 0, none⟩) (by show w.heap.size + 1 < _; omega)).trans hcx2
  have HX3 : Hid (P.CBox W3 w.heap.size ap az cp cz g h nb cn) := HX2.out.below bq
  have hcx3 : W3.cell? ⟨w.heap.size + 1, 0, none⟩ = some (.int .i64 x) := (bq.cell (p := ⟨w.heap.size + 1, 0, none⟩) (by show w.heap.size + 1 < _; omega)).trans hcx2
  have l3 : w.heap.size + 1 < W3.heap.size := World.block_lt_of_cell? _ _ hcx3
  generalize P.weak x = Q at *
  clear hc2 hcx hb2 bW HX HX2 HK2 HK3 bq
  go_wp2_with fail
  refine HL.out.mono ?_
  rintro e w4 ⟨m, rfl, ⟨m0, m1⟩, hfd, hb4⟩
  have b4 := b3.trans (hb4.mono b3.size)
  have HFD : Hid (∀ u, 0 ≤ u → u < m → P.safe 0 x u = true) := HOK.out.bad_found hfd
  have HX4 : Hid (P.CBox w4 w.heap.size ap az cp cz g h nb cn) := HX3.out.below hb4
  have hcx4 : w4.cell? ⟨w.heap.size + 1, 0, none⟩ = some (.int .i64 x) := (hb4.cell (p := ⟨w.heap.size + 1, 0, none⟩) (by show w.heap.size + 1 < _; omega)).trans hcx3
  clear hfd hb4 HL HX3 hcx3 hcx2 b3 hW3
  go_wp2_with fail
  go_loopw [6] (fun sv wr => ∃ z : Int, sv = .int .i64 z ∧ 0 ≤ z ∧ z ≤ 10001 ∧ Hid (∀ u, 0 ≤ u → u < z → P.safe 0 x u = true) ∧ Hid (Below w4.heap.size w4 wr)) (fun sv _ => (10001 - intOf sv).toNat)
  case atStart => exact ⟨m, rfl, m0, m1, HFD.out, Below.refl _ _⟩
  case round =>
    obtain ⟨z, rfl, z0, z1, HS, HQ⟩ := hrel
    have bq : Below w.heap.size w wr := b4.trans (HQ.out.mono b4.size)
    obtain ⟨x0, x1, x2, x3, x4, x5, x6⟩ := HX4.out.below HQ.out
    have hcx5 : wr.cell? ⟨w.heap.size + 1, 0, none⟩ = some (.int .i64 x) := (HQ.out.cell (p := ⟨w.heap.size + 1, 0, none⟩) (World.block_lt_of_cell? _ _ hcx4)).trans hcx4
    go_wp2_with fail
    refine (isSafe_any P _ x z _ (HC.out.below bq) HOK.out.fit hx0 hx1).mono ?_
    rintro e w6 ⟨rfl, hb6⟩
    cases hr : P.isSafe x z with
    | true =>
      have hz : z ≤ 10000 ∧ P.safe 0 x z = true := by
        unfold Prof.isSafe at hr
        simp at hr
        exact ⟨hr.1.2, hr.2⟩
      have HSn : Hid (∀ u, 0 ≤ u → u < z + 1 → P.safe 0 x u = true) := fun u h0 h1 => by
        by_cases c : u = z
        · subst c; exact hz.2
        · exact HS.out u h0 (by omega)
      have hz1 := hz.1
      clear hz hr
      go_wp2
      go_roundw
      case rel => exact ⟨z + 1, rfl, by omega, by omega, HSn.out, HQ.out.trans (hb6.mono HQ.out.size)⟩
      case measure => simp [intOf]; omega
    | false =>
      have HE : Hid (P.most x = z - 1) := Prof.most_of z0 z1 HS.out hr
      clear hr
      go_wp2
      go_ret
      exact ⟨ret_int HE.out.symm, bq.trans (hb6.mono bq.size)⟩

end Go.Proofs.Yteodefmpkljedaa
