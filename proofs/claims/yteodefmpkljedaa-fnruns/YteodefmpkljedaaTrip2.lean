/-
  The program's trip over a profile.
-/
import Derived.Test.YteodefmpkljedaaTrip1
import Derived.Test.YteodefmpkljedaaCourse3
import Derived.Test.YteodefmpkljedaaLawHelp
import Derived.Test.YteodefmpkljedaaUntil
import Derived.Shelf.Abstract
namespace Go.Proofs.Yteodefmpkljedaa
open Go.RowKit Go.Sort Go.Shelf
attribute [local go_sem ↓] Go.wp_at_zero Go.wp_at_succ
set_option linter.unusedVariables false

theorem Try.infoSpot : (Try.prog.info? 131).map (fun i => (i.zero, i.size, i.bytes)) = some (some (.agg #[.int .i64 0, .int .i64 0]), 2, 16) := by kernel_rfl
/-- The spots' row: the brake of each place, the greatest speed from it. -/
def Prof.spotB (P : Prof) (x : Int) (i : Nat) : Int := P.rate (x + i)
def Prof.spotM (P : Prof) (x : Int) (i : Nat) : Int := P.top (x + i)
def Prof.Spots (P : Prof) (w : World) (g n : Nat) (x : Int) : Prop := w.rowIs g 131 ((n + 1) * 2) (col2 (P.spotB x) (P.spotM x))
def tripZ (i : Nat) : Value := #[Value.slice none 0 0, Value.int .i64 0, Value.int .i64 0][i]!
theorem Prof.Spots.below {P : Prof} {w w1 : World} {g n : Nat} {x : Int} (h : P.Spots w g n x) (hb : Below w.heap.size w w1) : P.Spots w1 g n x := rowIs_below h hb
theorem Prof.Spots.cells {P : Prof} {w : World} {g n : Nat} {x : Int} (h : P.Spots w g n x) {i : Nat} (hi : i ≤ n) : w.cell? ⟨g, i * 2, none⟩ = some (.int .i64 (P.rate (x + i))) ∧ w.cell? ⟨g, i * 2 + 1, none⟩ = some (.int .i64 (P.top (x + i))) := by
  refine ⟨?_, ?_⟩
  · rw [h.cell (i := i * 2) (by omega), col2_0]; rfl
  · rw [h.cell (i := i * 2 + 1) (by omega), col2_1]; rfl

/-- A call of two arguments, taken by hand. -/
theorem step_two {P : Program} {ops : Array Oper} {o : Oper} {a : Act} {w : World} {K : Act → World → Prop} {Q : Exit → Act → World → Prop} {E : Prop}
    (hg : o.guard = none) (f : Nat) (s x : Operand) (ts : Array TypeId) (hop : o.op = Op.call { callee := Callee.value (Operand.func f), args := #[s, x], argTypes := ts })
    (u1 u2 : Value) (hs : a.eval s = u1) (hx : a.eval x = u2) (eg : ∀ args w, (callFunc f args).run P w = .ok (.enter f args) w) {R : Ending → World → Prop} (hc : Calls P f #[u1, u2] w R)
    (hK : ∀ e w', R e w' → ∃ v, e = .returned v ∧ K (a.put o.dst v) w') :
    if Region.wanted o (yielded ops a.tmps) = true then Oper.wp P o a w K Q else E := by
  have hw : Region.wanted o (yielded ops a.tmps) = true := by simp [Region.wanted, hg]
  rw [if_pos hw]
  have hrun : (execOp a.eval o).run P w = .ok (.enter f #[u1, u2]) w := by
    have hf : a.eval (Operand.func f) = .func (.func f) #[] #[] := rfl
    simp [execOp, hop, resolve, invoke, hs, hx, hf, eg, Deferred.ofValue]
  unfold Oper.wp
  rw [hrun]
  refine Calls.mono hc fun e w' h => ?_
  obtain ⟨v, rfl, hk⟩ := hK e w' h
  exact hk

set_option maxRecDepth 20000 in
set_option maxHeartbeats 8000000 in
theorem tripWith_yes (P : Prof) (v : Value) (acc x short : Int) (n : Nat) (w : World) (hl : P.Lies w v) (hg : P.runGood acc x short = true) (hn : P.fin - x = (n : Int)) :
    Calls Try.prog 78 #[v, .int .i64 acc, .int .i64 x, .int .i64 short] w fun e w' => ∃ g, e = .returned (.tuple #[.agg #[.slice (some ⟨g, 0, none⟩) (n + 1) (n + 1), .int .i64 acc, .int .i64 short], .bool true]) ∧ w.heap.size ≤ g ∧ P.Spots w' g n x ∧ Below w.heap.size w w' := by
  obtain ⟨hok, ⟨a0, a1⟩, ⟨g0, g1⟩, g2, ⟨s0, s1⟩⟩ := Prof.runGood_iff.1 hg
  have HV : Hid (P.Lies w v) := hl
  obtain ⟨i0, hi, hz0, hz1, hz2⟩ := info_parts Try.infoSpot
  obtain ⟨ap, cp, az, cz, rfl, hnp, hnz, hr2, hr3⟩ := hl
  have HOK : Hid P.Ok := hok
  have HF : Hid P.Fit := hok.fit
  have hbt := P.total_bounds hok.lens
  have hfn := hok.fin
  have HA : Hid (P.With x) := ⟨hok, g0, by omega⟩
  obtain ⟨f0, f1⟩ := hok.fit.fin
  have h1 := hok.counts.1
  clear hr2 hr3 hok hbt hg
  have hn2 : n ≤ 2000 := by omega
  have hmk : ∀ w : World, (Instr.makeSlice 100 (.int .i64 ((n : Int) + 1)) (.int .i64 ((n : Int) + 1))).run Try.prog w = .ok (.slice (some ⟨w.heap.size, 0, none⟩) (n + 1) (n + 1)) (w.alloc (.cells (madeCells #[.int .i64 0, .int .i64 0] ((n + 1) * 2)) 131)) := by
    intro w
    have := run_make (P := Try.prog) w 100 131 i0 _ Try.underlying100 hi hz0 .i64 .i64 (n + 1) (n + 1) (by omega) (by omega) (by rw [hz2]; omega) (by omega)
    simpa [hz1, Value.cells] using this
  go_enter Try.func78, Try.ntmps78
  go_wp2_with fail
  generalize hW : (w.alloc _).alloc _ = W
  have bW : Below w.heap.size w W := by rw [← hW]; exact ((Below.refl _ _).alloc (Nat.le_refl _) _).alloc (by simp) _
  have hz : W.rowIs (w.heap.size + 1) 102 3 tripZ := by
    have := World.rowIs_alloc (w.alloc (.cells #[.slice ap P.np cp, .slice az P.nz cz, .int .i64 P.train, .int .i64 P.fin, .int .i64 P.delay] 26)) #[Value.slice none 0 0, Value.int .i64 0, Value.int .i64 0] 102 tripZ (fun i hi => by simp at hi; simp [tripZ, hi])
    rw [← hW]
    exact (by simpa using this)
  have hbox : P.BoxAt W w.heap.size ap az cp cz := by subst hW; exact ⟨by go_simp, by go_simp, by go_simp, by go_simp, by go_simp⟩
  clear hW
  refine (courseWith_yes P _ x _ (HV.out.below bW) HA.out).mono ?_
  rintro e w2 ⟨v', rfl, hc, hb2⟩
  have b2 := bW.trans (hb2.mono bW.size)
  have HC : Hid (P.CourseIs w2 v') := hc
  have HX2 : Hid (P.BoxAt w2 w.heap.size ap az cp cz) := hbox.below hb2
  have HZ2 : Hid (w2.rowIs (w.heap.size + 1) 102 3 tripZ) := rowIs_below hz hb2
  have hsz2 : w.heap.size + 1 < w2.heap.size := HZ2.out.lt
  obtain ⟨bp, dp, bz, dz, g, h, nb, cn, b, rfl, hc⟩ := hc
  clear hb2 hc hbox bW hz
  obtain ⟨W3, hW3⟩ : ∃ W3, w2.alloc (.cells #[.slice bp P.np dp, .slice bz P.nz dz, .int .i64 P.train, .int .i64 P.fin, .int .i64 P.delay, .slice (some ⟨g, 0, none⟩) P.np P.np, .slice (some ⟨h, 0, none⟩) nb cn] 71) = W3 := ⟨_, rfl⟩
  have bq : Below w2.heap.size w2 W3 := by rw [← hW3]; exact (Below.refl _ _).alloc (Nat.le_refl _) _
  have b3 := b2.trans (bq.mono b2.size)
  have s3 : W3.heap.size = w2.heap.size + 1 := by rw [← hW3]; simp
  have HC3 := HC.out.below bq
  have HK3 : Hid (P.CBox W3 w2.heap.size bp bz dp dz g h nb cn) := by show Prof.CBox _ _ _ _ _ _ _ _ _ _ _; subst hW3; exact ⟨by go_simp, by go_simp, by go_simp, by go_simp, by go_simp, by go_simp, by go_simp⟩
  have HC3' : Hid (P.CourseIs W3 (.agg #[.slice bp P.np dp, .slice bz P.nz dz, .int .i64 P.train, .int .i64 P.fin, .int .i64 P.delay, .slice (some ⟨g, 0, none⟩) P.np P.np, .slice (some ⟨h, 0, none⟩) nb cn])) := HC3
  have x3 : W3.cell? ⟨w.heap.size, 3, none⟩ = some (.int .i64 P.fin) := (HX2.out.below bq).2.2.2.1
  have HZ3 : Hid (W3.rowIs (w.heap.size + 1) 102 3 tripZ) := rowIs_below HZ2.out bq
  clear HC3 HC bq HZ2
  go_wp2
  have HW3 : Hid (P.WayIs W3 (.agg #[.slice bp P.np dp, .slice bz P.nz dz, .int .i64 P.train, .int .i64 P.fin, .int .i64 P.delay, .slice (some ⟨g, 0, none⟩) P.np P.np])) := by
    obtain ⟨_, _, _, _, _, _, _, _, _, e, h1, _⟩ := HC3'.out
    cases e
    exact h1
  obtain ⟨G, hG⟩ : ∃ G, w2.heap.size + 1 = G := ⟨_, rfl⟩
  obtain ⟨H, hH⟩ : ∃ H, w2.heap.size = H := ⟨_, rfl⟩
  have eB : Hid (∀ args w, (callFunc 107 args).run Try.prog w = .ok (.enter 107 args) w) := enters_of Try.func107 (by kernel_rfl) rfl
  have eM : Hid (∀ args w, (callFunc 108 args).run Try.prog w = .ok (.enter 108 args) w) := enters_of Try.func108 (by kernel_rfl) rfl
  rw [hH] at HK3
  rw [hG, hH]
  go_loopw [60] (fun i wr => ∃ k : Nat, k ≤ n + 1 ∧ i = .int .i64 k ∧ Hid (∃ f, wr.rowIs G 131 ((n + 1) * 2) f ∧ ∀ j, j < k * 2 → f j = col2 (P.spotB x) (P.spotM x) j) ∧ Hid (Below W3.heap.size W3 wr)) (fun i _ => n + 1 - (intOf i).toNat)
  case atStart =>
    have := rowIs_zeros W3 #[.int .i64 0, .int .i64 0] ((n + 1) * 2) 131
    rw [s3, hG] at this
    exact ⟨0, Nat.zero_le _, rfl, ⟨_, this, fun j hj => by omega⟩, (Below.refl _ _).alloc (Nat.le_refl _) _⟩
  case round =>
    obtain ⟨k, hk, rfl, HF', HQ⟩ := hrel
    have bq : Below w.heap.size w wr := b3.trans (HQ.out.mono b3.size)
    by_cases hlt : k < n + 1
    · have hkI : (k : Int) < (n : Int) + 1 := by omega
      have HS0 : Hid ((fun y : World => P.CBox y H bp bz dp dz g h nb cn) wr.drew) := HK3.out.below HQ.out.drew
      go_wp2_with fail
      refine wp_region_any (by kernel_rfl) (wpAnyU.any (S := (fun y : World => P.CBox y H bp bz dp dz g h nb cn)) (m := 15) _ _ _ _ ?_)
      change wpAnyU _ _ _ _ _ _ 16 _ _ wr.drew
      refine wpAnyU_take (i := 0) (v := .slice (some ⟨G, 0, none⟩) (n + 1) (n + 1)) rfl (by kernel_rfl) (by kernel_rfl) (by kernel_rfl) (by kernel_rfl) (fun _ _ _ h => h) (Or.inl ⟨by rfl, fun y hy => ?_⟩) HS0.out ?_
      · obtain ⟨x0, x1, x2, x3, x4, x5, x6⟩ := hy
        go_simp
      refine wpAnyU_take (i := 1) (v := .int .i64 (k : Nat)) rfl (by kernel_rfl) (by kernel_rfl) (by kernel_rfl) (by kernel_rfl) (fun _ _ _ h => h) (Or.inl ⟨by rfl, fun y hy => ?_⟩) HS0.out ?_
      · obtain ⟨x0, x1, x2, x3, x4, x5, x6⟩ := hy
        go_simp
      refine wpAnyU_take (i := 2) (v := .pointer (some ⟨H, 0, none⟩)) rfl (by kernel_rfl) (by kernel_rfl) (by kernel_rfl) (by kernel_rfl) (fun _ _ _ h => h) (Or.inl ⟨by rfl, fun y hy => ?_⟩) HS0.out ?_
      · obtain ⟨x0, x1, x2, x3, x4, x5, x6⟩ := hy
        go_simp
      refine wpAnyU_take (i := 3) (v := (.agg #[.slice bp P.np dp, .slice bz P.nz dz, .int .i64 P.train, .int .i64 P.fin, .int .i64 P.delay, .slice (some ⟨g, 0, none⟩) P.np P.np])) rfl (by kernel_rfl) (by kernel_rfl) (by kernel_rfl) (by kernel_rfl) (fun _ _ _ h => h) (Or.inl ⟨by rfl, fun y hy => ?_⟩) HS0.out ?_
      · obtain ⟨x0, x1, x2, x3, x4, x5, x6⟩ := hy
        go_simp
      refine wpAnyU_take (i := 4) (v := .int .i64 x) rfl (by kernel_rfl) (by kernel_rfl) (by kernel_rfl) (by kernel_rfl) (fun _ _ _ h => h) (Or.inl ⟨by rfl, fun y hy => ?_⟩) HS0.out ?_
      · obtain ⟨x0, x1, x2, x3, x4, x5, x6⟩ := hy
        go_simp
      refine wpAnyU_take (i := 5) (v := .int .i64 (k : Nat)) rfl (by kernel_rfl) (by kernel_rfl) (by kernel_rfl) (by kernel_rfl) (fun _ _ _ h => h) (Or.inl ⟨by rfl, fun y hy => ?_⟩) HS0.out ?_
      · obtain ⟨x0, x1, x2, x3, x4, x5, x6⟩ := hy
        go_simp
      refine wpAnyU_take (i := 6) (v := .int .i64 (x + k)) rfl (by kernel_rfl) (by kernel_rfl) (by kernel_rfl) (by kernel_rfl) (fun _ _ _ h => h) (Or.inl ⟨by rfl, fun y hy => ?_⟩) HS0.out ?_
      · obtain ⟨x0, x1, x2, x3, x4, x5, x6⟩ := hy
        go_simp
        exact wrapIn (by omega) (by omega)
      refine wpAnyU_take (i := 8) (v := (.agg #[.slice bp P.np dp, .slice bz P.nz dz, .int .i64 P.train, .int .i64 P.fin, .int .i64 P.delay, .slice (some ⟨g, 0, none⟩) P.np P.np, .slice (some ⟨h, 0, none⟩) nb cn])) rfl (by kernel_rfl) (by kernel_rfl) (by kernel_rfl) (by kernel_rfl) (fun _ _ _ h => h) (Or.inl ⟨by rfl, fun y hy => ?_⟩) HS0.out ?_
      · obtain ⟨x0, x1, x2, x3, x4, x5, x6⟩ := hy
        go_simp
      refine wpAnyU_take (i := 9) (v := .int .i64 x) rfl (by kernel_rfl) (by kernel_rfl) (by kernel_rfl) (by kernel_rfl) (fun _ _ _ h => h) (Or.inl ⟨by rfl, fun y hy => ?_⟩) HS0.out ?_
      · obtain ⟨x0, x1, x2, x3, x4, x5, x6⟩ := hy
        go_simp
      refine wpAnyU_take (i := 10) (v := .int .i64 (k : Nat)) rfl (by kernel_rfl) (by kernel_rfl) (by kernel_rfl) (by kernel_rfl) (fun _ _ _ h => h) (Or.inl ⟨by rfl, fun y hy => ?_⟩) HS0.out ?_
      · obtain ⟨x0, x1, x2, x3, x4, x5, x6⟩ := hy
        go_simp
      refine wpAnyU_take (i := 11) (v := .int .i64 (x + k)) rfl (by kernel_rfl) (by kernel_rfl) (by kernel_rfl) (by kernel_rfl) (fun _ _ _ h => h) (Or.inl ⟨by rfl, fun y hy => ?_⟩) HS0.out ?_
      · obtain ⟨x0, x1, x2, x3, x4, x5, x6⟩ := hy
        go_simp
        exact wrapIn (by omega) (by omega)
      refine wpAnyU_one (i := 7) rfl (by kernel_rfl) (fun K hK => ?_)
      refine step_two rfl 107 (.tmp 66) (.tmp 69) _ rfl (.agg #[.slice bp P.np dp, .slice bz P.nz dz, .int .i64 P.train, .int .i64 P.fin, .int .i64 P.delay, .slice (some ⟨g, 0, none⟩) P.np P.np]) (.int .i64 (x + k)) (by simp [Act.eval, Act.put]) (by simp [Act.eval, Act.put]) eB.out (brakeAt_any P _ (x + k) _ (HW3.out.below HQ.out.drew) HF.out.up h1) ?_
      rintro e w8 ⟨rfl, hb8⟩
      refine ⟨_, rfl, hK _ _ (Or.inr (HS0.out.below hb8)) ?_⟩
      clear hK K
      have q8 : Below W3.heap.size W3 w8 := HQ.out.drew.trans (hb8.mono HQ.out.drew.size)
      have HF8 : Hid (∃ f, w8.rowIs G 131 ((n + 1) * 2) f ∧ ∀ j, j < k * 2 → f j = col2 (P.spotB x) (P.spotM x) j) := by
        obtain ⟨f, hf1, hf2⟩ := HF'.out
        exact ⟨f, rowIs_below (w := wr.drew) hf1 hb8, hf2⟩
      clear hb8 HF' HQ
      refine wpAnyU_one (i := 12) rfl (by kernel_rfl) (fun K hK => ?_)
      refine step_two rfl 108 (.tmp 71) (.tmp 74) _ rfl (.agg #[.slice bp P.np dp, .slice bz P.nz dz, .int .i64 P.train, .int .i64 P.fin, .int .i64 P.delay, .slice (some ⟨g, 0, none⟩) P.np P.np, .slice (some ⟨h, 0, none⟩) nb cn]) (.int .i64 (x + k)) (by simp [Act.eval, Act.put]) (by simp [Act.eval, Act.put]) eM.out (mostFrom_any P _ (x + k) _ (HC3'.out.below q8) HF.out (by omega) (by omega)) ?_
      rintro e w9 ⟨rfl, hb9⟩
      have q9 : Below W3.heap.size W3 w9 := q8.trans (hb9.mono q8.size)
      have HS9 : Hid ((fun y : World => P.CBox y H bp bz dp dz g h nb cn) w9) := HK3.out.below q9
      refine ⟨_, rfl, hK _ _ (Or.inr HS9.out) ?_⟩
      clear hK K
      have HF9 : Hid (∃ f, w9.rowIs G 131 ((n + 1) * 2) f ∧ ∀ j, j < k * 2 → f j = col2 (P.spotB x) (P.spotM x) j) := by
        obtain ⟨f, hf1, hf2⟩ := HF8.out
        exact ⟨f, rowIs_below hf1 hb9, hf2⟩
      clear hb9 HF8
      refine wpAnyU_take (i := 13) (v := .agg #[.int .i64 (P.rate (x + k)), .int .i64 (P.top (x + k))]) rfl (by kernel_rfl) (by kernel_rfl) (by kernel_rfl) (by kernel_rfl) (fun _ _ _ h => h) (Or.inl ⟨by rfl, fun y hy => ?_⟩) HS9.out ?_
      · go_simp
      refine wpAnyU_take (i := 14) (v := .pointer (some ⟨G, k * 2, none⟩)) rfl (by kernel_rfl) (by kernel_rfl) (by kernel_rfl) (by kernel_rfl) (fun _ _ _ h => h) (Or.inl ⟨by rfl, fun y hy => ?_⟩) HS9.out ?_
      · go_simp
      obtain ⟨f, hrow, hf⟩ := HF9.out
      have HR9 : Hid (w9.rowIs G 131 ((n + 1) * 2) f ∧ ∀ j, j < k * 2 → f j = col2 (P.spotB x) (P.spotM x) j) := ⟨hrow, hf⟩
      have d0 := HR9.out.1.cell (i := k * 2) (by omega)
      have d1 := HR9.out.1.cell (i := k * 2 + 1) (by omega)
      have df := HR9.out.1.frozen
      clear hrow hf HF9
      refine wpAnyU_one (i := 15) rfl (by kernel_rfl) (fun K hK => ?_)
      go_simp
      refine hK _ _ (Or.inl rfl) ?_
      clear hK K
      refine wpAnyU_done (by kernel_rfl) ?_ _
      go_wp2
      go_roundw
      case rel =>
        have e1 : P.spotB x k = P.rate (x + k) := rfl
        have e2 : P.spotM x k = P.top (x + k) := rfl
        have := set2 HR9.out.1 HR9.out.2
        rw [e1, e2] at this
        exact ⟨k + 1, by omega, by go_num, this, (q9.setCell (by show W3.heap.size ≤ G; omega) _).setCell (by show W3.heap.size ≤ G; omega) _⟩
      case measure => simp [intOf]; omega
    · have ek : k = n + 1 := by omega
      subst ek
      have HZw : Hid (wr.rowIs (w.heap.size + 1) 102 3 tripZ) := rowIs_below HZ3.out HQ.out
      have k0 := HZw.out.cell (i := 0) (by omega)
      have k1 := HZw.out.cell (i := 1) (by omega)
      have k2 := HZw.out.cell (i := 2) (by omega)
      have kf := HZw.out.frozen
      simp only [tripZ] at k0 k1 k2
      go_wp2
      refine bodyPost_ret (v := .tuple #[.agg #[.slice (some ⟨G, 0, none⟩) (n + 1) (n + 1), .int .i64 acc, .int .i64 short], .bool true]) (by simp [results, Try.results78, go_sem, *]) rfl ⟨G, rfl, by omega, ?_, ?_⟩
      · obtain ⟨f, hrow, hf⟩ := HF'.out
        iterate 3 refine World.rowIs.setOther ?_ (by simp; omega) _
        exact hrow.congr fun i hi => hf i hi
      · iterate 3 refine Below.setCell ?_ (by simp) _
        exact bq

set_option maxHeartbeats 8000000 in
theorem tripWith_wrong (P : Prof) (v : Value) (acc x short : Int) (w : World) (hl : P.Lies w v) (h : ¬ P.With x) :
    Calls Try.prog 78 #[v, .int .i64 acc, .int .i64 x, .int .i64 short] w fun e w' => e = .returned (.tuple #[.agg #[.slice none 0 0, .int .i64 0, .int .i64 0], .bool false]) ∧ Below w.heap.size w w' := by
  have HV : Hid (P.Lies w v) := hl
  have HN : Hid (¬ P.With x) := h
  obtain ⟨ap, cp, az, cz, rfl, hnp, hnz, hr2, hr3⟩ := hl
  clear hr2 hr3 h
  go_enter Try.func78, Try.ntmps78
  go_wp2_with fail
  generalize hW : (w.alloc _).alloc _ = W
  have bW : Below w.heap.size w W := by rw [← hW]; exact ((Below.refl _ _).alloc (Nat.le_refl _) _).alloc (by simp) _
  have hz : W.rowIs (w.heap.size + 1) 102 3 tripZ := by
    have := World.rowIs_alloc (w.alloc (.cells #[.slice ap P.np cp, .slice az P.nz cz, .int .i64 P.train, .int .i64 P.fin, .int .i64 P.delay] 26)) #[Value.slice none 0 0, Value.int .i64 0, Value.int .i64 0] 102 tripZ (fun i hi => by simp at hi; simp [tripZ, hi])
    rw [← hW]
    exact (by simpa using this)
  clear hW
  have hcon : Calls Try.prog 46 #[.agg #[.slice ap P.np cp, .slice az P.nz cz, .int .i64 P.train, .int .i64 P.fin, .int .i64 P.delay], .int .i64 x] W fun e w' => ∃ z : Nat, e = .returned (.tuple #[.agg #[.slice none 0 0, .slice none 0 0, .int .i64 0, .int .i64 0, .int .i64 0, .slice none 0 0, .slice none 0 z], .bool false]) ∧ Below W.heap.size W w' := (courseWith_no P _ x _ (HV.out.below bW) HN.out).mono (fun e w' q => ⟨0, q.1, q.2⟩)
  refine hcon.mono ?_
  clear hcon
  rintro e w2 ⟨z, rfl, hb2⟩
  have b2 := bW.trans (hb2.mono bW.size)
  have s2 := b2.size
  obtain ⟨W3, hW3⟩ : ∃ W3, w2.alloc (.cells #[.slice none 0 0, .slice none 0 0, .int .i64 0, .int .i64 0, .int .i64 0, .slice none 0 0, .slice none 0 z] 71) = W3 := ⟨_, rfl⟩
  have b3 : Below w.heap.size w W3 := by rw [← hW3]; exact b2.alloc b2.size _
  have HZ3 : Hid (W3.rowIs (w.heap.size + 1) 102 3 tripZ) := by show World.rowIs _ _ _ _ _; rw [← hW3]; exact (rowIs_below hz hb2).alloc _
  have k0 := HZ3.out.cell (i := 0) (by omega)
  have k1 := HZ3.out.cell (i := 1) (by omega)
  have k2 := HZ3.out.cell (i := 2) (by omega)
  have kf := HZ3.out.frozen
  simp only [tripZ] at k0 k1 k2
  clear hb2 bW hz
  go_wp2
  refine bodyPost_ret (v := .tuple #[.agg #[.slice none 0 0, .int .i64 0, .int .i64 0], .bool false]) (by simp [results, Try.results78, go_sem, *]) rfl ⟨rfl, ?_⟩
  iterate 3 refine Below.setCell ?_ (by simp) _
  exact b3

set_option maxHeartbeats 8000000 in
theorem tripWith_not (P : Prof) (v : Value) (acc x short : Int) (w : World) (hl : P.Lies w v) (h : P.With x) (hn : acc < 1 ∨ 20 < acc ∨ P.fin < x ∨ 2000 < P.fin - x ∨ short < 0 ∨ 2000 < short) :
    Calls Try.prog 78 #[v, .int .i64 acc, .int .i64 x, .int .i64 short] w fun e w' => e = .returned (.tuple #[.agg #[.slice none 0 0, .int .i64 0, .int .i64 0], .bool false]) ∧ Below w.heap.size w w' := by
  have HV : Hid (P.Lies w v) := hl
  have HA : Hid (P.With x) := h
  obtain ⟨ap, cp, az, cz, rfl, hnp, hnz, hr2, hr3⟩ := hl
  obtain ⟨f0, f1⟩ := h.1.fit.fin
  have hbt := (P.total_bounds h.1.lens).2
  obtain ⟨_, x0, x1⟩ := h
  clear hr2 hr3
  go_enter Try.func78, Try.ntmps78
  go_wp2_with fail
  generalize hW : (w.alloc _).alloc _ = W
  have bW : Below w.heap.size w W := by rw [← hW]; exact ((Below.refl _ _).alloc (Nat.le_refl _) _).alloc (by simp) _
  have hz : W.rowIs (w.heap.size + 1) 102 3 tripZ := by
    have := World.rowIs_alloc (w.alloc (.cells #[.slice ap P.np cp, .slice az P.nz cz, .int .i64 P.train, .int .i64 P.fin, .int .i64 P.delay] 26)) #[Value.slice none 0 0, Value.int .i64 0, Value.int .i64 0] 102 tripZ (fun i hi => by simp at hi; simp [tripZ, hi])
    rw [← hW]
    exact (by simpa using this)
  have hbox : P.BoxAt W w.heap.size ap az cp cz := by subst hW; exact ⟨by go_simp, by go_simp, by go_simp, by go_simp, by go_simp⟩
  clear hW
  refine (courseWith_yes P _ x _ (HV.out.below bW) HA.out).mono ?_
  rintro e w2 ⟨v', rfl, hc, hb2⟩
  have b2 := bW.trans (hb2.mono bW.size)
  have s2 := b2.size
  obtain ⟨bp, dp, bz, dz, g, h, nb, cn, b, rfl, hc⟩ := hc
  obtain ⟨W3, hW3⟩ : ∃ W3, w2.alloc (.cells #[.slice bp P.np dp, .slice bz P.nz dz, .int .i64 P.train, .int .i64 P.fin, .int .i64 P.delay, .slice (some ⟨g, 0, none⟩) P.np P.np, .slice (some ⟨h, 0, none⟩) nb cn] 71) = W3 := ⟨_, rfl⟩
  have b3 : Below w.heap.size w W3 := by rw [← hW3]; exact b2.alloc b2.size _
  have HZ3 : Hid (W3.rowIs (w.heap.size + 1) 102 3 tripZ) := by show World.rowIs _ _ _ _ _; rw [← hW3]; exact (rowIs_below hz hb2).alloc _
  have x3 : W3.cell? ⟨w.heap.size, 3, none⟩ = some (.int .i64 P.fin) := by rw [← hW3]; exact ((hbox.below hb2).below ((Below.refl _ _).alloc (Nat.le_refl _) _)).2.2.2.1
  have k0 := HZ3.out.cell (i := 0) (by omega)
  have k1 := HZ3.out.cell (i := 1) (by omega)
  have k2 := HZ3.out.cell (i := 2) (by omega)
  have kf := HZ3.out.frozen
  simp only [tripZ] at k0 k1 k2
  clear hb2 bW hz hbox hc
  have HEND : Hid (∀ v0 v1 v2, Below w.heap.size w (((W3.setCell ⟨w.heap.size + 1, 0, none⟩ v0).setCell ⟨w.heap.size + 1, 1, none⟩ v1).setCell ⟨w.heap.size + 1, 2, none⟩ v2)) := fun v0 v1 v2 => by
    iterate 3 refine Below.setCell ?_ (by simp) _
    exact b3
  by_cases n1 : acc < 1
  · clear hn
    go_wp2
    exact bodyPost_ret (v := .tuple #[.agg #[.slice none 0 0, .int .i64 0, .int .i64 0], .bool false]) (by simp [results, Try.results78, go_sem, *]) rfl ⟨rfl, HEND.out _ _ _⟩
  have n1' : decide (acc < 1) = false := by simpa using n1
  by_cases n2 : 20 < acc
  · clear hn
    go_wp2
    exact bodyPost_ret (v := .tuple #[.agg #[.slice none 0 0, .int .i64 0, .int .i64 0], .bool false]) (by simp [results, Try.results78, go_sem, *]) rfl ⟨rfl, HEND.out _ _ _⟩
  have n2' : decide (20 < acc) = false := by simpa using n2
  by_cases n3 : P.fin < x
  · clear hn
    go_wp2
    exact bodyPost_ret (v := .tuple #[.agg #[.slice none 0 0, .int .i64 0, .int .i64 0], .bool false]) (by simp [results, Try.results78, go_sem, *]) rfl ⟨rfl, HEND.out _ _ _⟩
  have n3' : decide (P.fin < x) = false := by simpa using n3
  by_cases n4 : 2000 < P.fin - x
  · clear hn
    go_wp2
    exact bodyPost_ret (v := .tuple #[.agg #[.slice none 0 0, .int .i64 0, .int .i64 0], .bool false]) (by simp [results, Try.results78, go_sem, *]) rfl ⟨rfl, HEND.out _ _ _⟩
  have n4' : decide (2000 < P.fin - x) = false := by simpa using n4
  by_cases n5 : short < 0
  · clear hn
    go_wp2
    exact bodyPost_ret (v := .tuple #[.agg #[.slice none 0 0, .int .i64 0, .int .i64 0], .bool false]) (by simp [results, Try.results78, go_sem, *]) rfl ⟨rfl, HEND.out _ _ _⟩
  have n5' : decide (short < 0) = false := by simpa using n5
  have n6 : 2000 < short := by omega
  clear hn
  go_wp2
  exact bodyPost_ret (v := .tuple #[.agg #[.slice none 0 0, .int .i64 0, .int .i64 0], .bool false]) (by simp [results, Try.results78, go_sem, *]) rfl ⟨rfl, HEND.out _ _ _⟩

theorem tripWith_no (P : Prof) (v : Value) (acc x short : Int) (w : World) (hl : P.Lies w v) (hg : P.runGood acc x short = false) :
    Calls Try.prog 78 #[v, .int .i64 acc, .int .i64 x, .int .i64 short] w fun e w' => e = .returned (.tuple #[.agg #[.slice none 0 0, .int .i64 0, .int .i64 0], .bool false]) ∧ Below w.heap.size w w' := by
  by_cases h : P.With x
  · refine tripWith_not P v acc x short w hl h ?_
    have hn : ¬ (P.Ok ∧ (1 ≤ acc ∧ acc ≤ 20) ∧ (0 ≤ x ∧ x ≤ P.fin) ∧ P.fin - x ≤ 2000 ∧ (0 ≤ short ∧ short ≤ 2000)) := fun c => by rw [Prof.runGood_iff.2 c] at hg; simp at hg
    have h0 := h.2.1
    rcases Classical.em (acc < 1 ∨ 20 < acc ∨ P.fin < x ∨ 2000 < P.fin - x ∨ short < 0 ∨ 2000 < short) with c | c
    · exact c
    · exact absurd ⟨h.1, ⟨by omega, by omega⟩, ⟨h0, by omega⟩, by omega, ⟨by omega, by omega⟩⟩ hn
  · exact tripWith_wrong P v acc x short w hl h

end Go.Proofs.Yteodefmpkljedaa
