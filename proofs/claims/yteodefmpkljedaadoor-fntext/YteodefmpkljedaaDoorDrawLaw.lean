/-
  What a law draws: a right profile, a place not beyond its end, wants.
-/
import Derived.Test.YteodefmpkljedaaDoorDrawAll
import Derived.Deep.DrawnRows
import Derived.WalkSmall
namespace Go.Proofs.YteodefmpkljedaaDoor
open Go.RowKit
attribute [local go_sem ↓] Go.wp_at_zero Go.wp_at_succ
set_option linter.unusedVariables false
set_option linter.unusedSimpArgs false

theorem step_call1 {P : Program} {ops : Array Oper} {o : Oper} {a : Act} {w : World} {K : Act → World → Prop} {Q : Exit → Act → World → Prop} {E : Prop}
    (hg : o.guard = none) (f : Nat) (s : Operand) (ts : Array TypeId) (hop : o.op = Op.call { callee := Callee.value (Operand.func f), args := #[s], argTypes := ts })
    (u1 : Value) (hs : a.eval s = u1) (eg : ∀ args w, (callFunc f args).run P w = .ok (.enter f args) w) {R : Ending → World → Prop} (hc : Calls P f #[u1] w R)
    (hK : ∀ e w', R e w' → ∃ v, e = .returned v ∧ K (a.put o.dst v) w') :
    if Region.wanted o (yielded ops a.tmps) = true then Oper.wp P o a w K Q else E := by
  have hw : Region.wanted o (yielded ops a.tmps) = true := by simp [Region.wanted, hg]
  rw [if_pos hw]
  have hrun : (execOp a.eval o).run P w = .ok (.enter f #[u1]) w := by
    have hf : a.eval (Operand.func f) = .func (.func f) #[] #[] := rfl
    simp [execOp, hop, resolve, invoke, hs, hf, eg, Result.andThen, Deferred.ofValue]
  unfold Oper.wp
  rw [hrun]
  refine Calls.mono hc fun e w' h => ?_
  obtain ⟨v, rfl, hk⟩ := hK e w' h
  exact hk

def Txt.start : Cur := ⟨0, 0⟩
def Txt.scale (C : Txt) : Int := 1 + C.pickVal Txt.start 30
def Txt.d0 (C : Txt) : Cur := C.pickCur Txt.start 30
/-- The law's profile, place, wants. -/
def Txt.P (C : Txt) : Prof := C.prof C.scale C.d0
def Txt.d1 (C : Txt) : Cur := C.c7 C.d0
def Txt.x (C : Txt) : Int := C.wideVal C.d1 (C.P.fin + 1)
def Txt.d2 (C : Txt) : Cur := C.wideCur C.d1
def Txt.nw (C : Txt) : Nat := C.wn C.d2
def Txt.ws (C : Txt) (k : Nat) : Int := C.want C.d2 k
theorem Txt.scale_bounds {C : Txt} (h : C.Ok) : 1 ≤ C.scale ∧ C.scale ≤ 30 := by
  have := Txt.pickVal_bounds h (c := Txt.start) (by show (0 : Int) ≤ 0; omega) (n := 30) (by omega)
  unfold Txt.scale
  omega
theorem Txt.d0_pos (C : Txt) : 0 ≤ C.d0.pos ∧ C.d0.pos ≤ 2 := by
  have := C.pickCur_pos Txt.start 30
  have h0 : Txt.start.pos = 0 := rfl
  unfold Txt.d0
  omega
theorem Txt.P_ok {C : Txt} (h : C.Ok) : C.P.Ok := Txt.prof_ok h (Txt.scale_bounds h).1 (by have := (Txt.scale_bounds h).2; omega) C.d0_pos.1
theorem Txt.d1_pos {C : Txt} (h : C.Ok) : 0 ≤ C.d1.pos ∧ C.d1.pos ≤ 58 := by
  have h1 := C.d0_pos
  have := Txt.c7_pos h h1.1
  unfold Txt.d1
  omega
theorem Txt.x_bounds {C : Txt} (h : C.Ok) : 0 ≤ C.x ∧ C.x ≤ C.P.fin := by
  have := (Txt.P_ok h).fin.1
  have := Txt.wideVal_bounds (C := C) (c := C.d1) (n := C.P.fin + 1) (by omega)
  unfold Txt.x
  omega
theorem Txt.nw_le {C : Txt} (h : C.Ok) : C.nw ≤ 39 := by
  have h1 := Txt.d1_pos h
  have h2 := C.wideCur_pos C.d1
  have h3 := C.pickCur_pos C.d2 40
  have : 0 ≤ C.d2.pos := by unfold Txt.d2; omega
  have := Txt.pickVal_bounds h (c := C.pickCur C.d2 40) (by omega) (n := 40) (by omega)
  unfold Txt.nw Txt.wn
  omega
/-- The bytes lie in memory. -/
def TxtIn (w : World) (a : Option Addr) (C : Txt) : Prop := C.len = 0 ∨ ∃ b off, a = some ⟨b, off, none⟩ ∧ b < w.heap.size ∧ ∀ j, j < C.len → w.cell? ⟨b, off + j, none⟩ = some (.int .u8 (C.b j))
theorem TxtIn.below {w w1 : World} {a : Option Addr} {C : Txt} (h : TxtIn w a C) (hb : Below w.heap.size w w1) : TxtIn w1 a C := by
  rcases h with h | ⟨b, off, rfl, hlt, hc⟩
  · exact Or.inl h
  · exact Or.inr ⟨b, off, rfl, Nat.lt_of_lt_of_le hlt hb.size, fun j hj => by rw [hb.cell hlt]; exact hc j hj⟩
theorem below_grown {w x : World} {B : Nat} (h : w.grownBy x (some B)) (hB : w.heap.size ≤ B) : Below w.heap.size w x := ⟨h.os, h.tape, h.output, h.size, fun k hk => h.block k hk (fun e => by have := Option.some.inj e; omega)⟩

set_option maxRecDepth 20000 in
set_option maxHeartbeats 8000000 in
theorem profiles_any (C : Txt) (hC : C.Ok) (a : Option Addr) (cap : Nat) (w : World) (hr : TxtIn w a C) :
    Calls Tryd.prog 4 #[.slice a C.len cap] w fun e w' => ∃ v1 v2 v3, e = .returned (.tuple #[.agg #[v1, v2, .int .i64 C.P.train, .int .i64 C.P.fin, .int .i64 C.P.delay], .int .i64 C.x, v3]) ∧ w'.ownsRow w.heap.size 46 2 v1 C.P.np (pairs C.P.L C.P.B C.P.np) ∧ w'.ownsRow w.heap.size 49 3 v2 C.P.nz (triples C.P.F C.P.T C.P.S C.P.nz) ∧ w'.ownsRow w.heap.size 3 1 v3 C.nw (singles C.ws C.nw) ∧ Below w.heap.size w w' := by
  have HR : Hid (TxtIn w a C) := hr
  have HC : Hid C.Ok := hC
  obtain ⟨s0, s1⟩ := Txt.scale_bounds hC
  obtain ⟨e0, e1⟩ := C.d0_pos
  obtain ⟨f0, f1⟩ := Txt.d1_pos hC
  have hlen := hC.1
  clear hr hC
  go_enter Tryd.func4, Tryd.ntmps4
  go_wp2_with fail
  generalize hW : (w.alloc _).alloc _ = W
  have gW : w.grownBy W (some (w.heap.size + 1)) := by rw [← hW]; exact grown_tr (World.grownBy_alloc _ _ _) (World.grownBy_alloc _ _ _)
  have sW : W.heap.size = w.heap.size + 2 := by rw [← hW]; simp
  have rR : W.rowIs w.heap.size 26 5 (p5 nilS nilS 0 0 0) := by
    have := (World.rowIs_alloc w #[nilS, nilS, .int .i64 0, .int .i64 0, .int .i64 0] 26 (p5 nilS nilS 0 0 0) (fun i hi => by simp at hi; match i, hi with | 0, _ => rfl | 1, _ => rfl | 2, _ => rfl | 3, _ => rfl | 4, _ => rfl)).alloc (.cells #[.slice a C.len cap, .int .i64 0, .int .u64 0] 40)
    rw [← hW]; exact this
  have hRW : Reads W (w.heap.size + 1) a cap C Txt.start := by
    constructor
    · have := World.rowIs_alloc (w.alloc (.cells #[nilS, nilS, .int .i64 0, .int .i64 0, .int .i64 0] 26)) #[.slice a C.len cap, .int .i64 0, .int .u64 0] 40 (curCells a C.len cap Txt.start) (fun i hi => by simp at hi; match i, hi with | 0, _ => rfl | 1, _ => rfl | 2, _ => rfl)
      rw [World.size_alloc] at this
      rw [← hW]; exact this
    · rcases HR.out with h | ⟨b, off, rfl, hb, hc⟩
      · exact Or.inl h
      · exact Or.inr ⟨b, off, rfl, by omega, fun j hj => gW.cell (hc j hj) (fun e => by have h2 : b = w.heap.size + 1 := Option.some.inj e; omega)⟩
  clear hW
  refine (pick_any C HC.out a cap (w.heap.size + 1) Txt.start 30 _ hRW (by show (0 : Int) ≤ 0; omega) (by show (0 : Int) ≤ _; omega)).mono ?_
  rintro e w1 ⟨rfl, hr1, hg1⟩
  have g1 := grown_tr gW hg1
  have s1 := hg1.size
  replace rR := rowIs_grown rR hg1 (by simp)
  have H1 : Hid (w1.rowIs w.heap.size 26 5 (p5 nilS nilS 0 0 0) ∧ Reads w1 (w.heap.size + 1) a cap C C.d0 ∧ w.grownBy w1 (some (w.heap.size + 1))) := ⟨rR, hr1, g1⟩
  have hsc : 1 + C.pickVal Txt.start 30 = C.scale := rfl
  have hpv : C.pickVal Txt.start 30 = C.scale - 1 := by omega
  rw [hpv]
  clear hr1 hg1 g1 rR gW hRW hsc hpv
  go_wp2_with fail
  rw [show 1 + (C.scale - 1) = C.scale by omega]
  refine (profile_any C HC.out a cap (w.heap.size + 1) C.d0 C.scale _ H1.out.2.1 e0 (by omega) s0 (by omega)).mono ?_
  rintro e w2 ⟨v1, v2, rfl, ho1, ho2, hr2, hg2⟩
  have s2 := hg2.size
  have ob1 := ownsRow_base ho1 (base' := w.heap.size + 2) (by omega)
  have ob2 := ownsRow_base ho2 (base' := w.heap.size + 2) (by omega)
  have H2 : Hid (w2.rowIs w.heap.size 26 5 (p5 nilS nilS 0 0 0) ∧ w2.ownsRow (w.heap.size + 2) 46 2 v1 C.P.np (pairs C.P.L C.P.B C.P.np) ∧ w2.ownsRow (w.heap.size + 2) 49 3 v2 C.P.nz (triples C.P.F C.P.T C.P.S C.P.nz) ∧ Reads w2 (w.heap.size + 1) a cap C C.d1 ∧ w.grownBy w2 (some (w.heap.size + 1))) := ⟨rowIs_grown H1.out.1 hg2 (by simp), ob1, ob2, hr2, grown_tr H1.out.2.2 hg2⟩
  obtain ⟨av, cv, rfl, _, _, _⟩ := owned_shape H2.out.2.1
  obtain ⟨au, cu, rfl, _, _, _⟩ := owned_shape H2.out.2.2.1
  clear ho1 ho2 hr2 hg2 ob1 ob2 H1
  rw [show (C.prof C.scale C.d0) = C.P from rfl]
  obtain ⟨k0, k1⟩ := (Txt.P_ok HC.out).fin
  have htot := (Prof.total_bounds (Txt.P_ok HC.out).lens).2
  go_wp2_with fail
  obtain ⟨Pb, hPb⟩ : ∃ Pb, w2.heap.size = Pb := ⟨_, rfl⟩
  rw [hPb]
  generalize hW3 : w2.alloc _ = W3
  have g3 : w2.grownBy W3 none := by rw [← hW3]; exact World.grownBy_alloc _ _ _
  have s3 : W3.heap.size = Pb + 1 := by rw [← hW3, ← hPb]; simp
  have rP : W3.rowIs Pb 26 5 (p5 (.slice av C.P.np cv) (.slice au C.P.nz cu) C.P.train C.P.fin C.P.delay) := by
    have := World.rowIs_alloc w2 #[.slice av C.P.np cv, .slice au C.P.nz cu, .int .i64 C.P.train, .int .i64 C.P.fin, .int .i64 C.P.delay] 26 (p5 (.slice av C.P.np cv) (.slice au C.P.nz cu) C.P.train C.P.fin C.P.delay) (fun i hi => by simp at hi; match i, hi with | 0, _ => rfl | 1, _ => rfl | 2, _ => rfl | 3, _ => rfl | 4, _ => rfl)
    rw [hW3, hPb] at this
    exact this
  have H3 : Hid (W3.rowIs w.heap.size 26 5 (p5 nilS nilS 0 0 0) ∧ W3.ownsRow (w.heap.size + 2) 46 2 (.slice av C.P.np cv) C.P.np (pairs C.P.L C.P.B C.P.np) ∧ W3.ownsRow (w.heap.size + 2) 49 3 (.slice au C.P.nz cu) C.P.nz (triples C.P.F C.P.T C.P.S C.P.nz) ∧ Reads W3 (w.heap.size + 1) a cap C C.d1 ∧ w.grownBy W3 (some (w.heap.size + 1)) ∧ W3.rowIs Pb 26 5 (p5 (.slice av C.P.np cv) (.slice au C.P.nz cu) C.P.train C.P.fin C.P.delay)) := by
    obtain ⟨o1, o2, o3, o4, o5⟩ := H2.out
    exact ⟨rowIs_grown o1 g3 (by simp), owned_grown o2 g3 (fun j e => by cases e), owned_grown o3 g3 (fun j e => by cases e), o4.grown g3 (fun j e => by cases e), grown_new o5 g3 (fun j e => by cases e), rP⟩
  clear hW3 g3 rP H2
  refine (wide_any C HC.out a cap (w.heap.size + 1) C.d1 (C.P.fin + 1) _ H3.out.2.2.2.1 f0 (by omega) (by omega)).mono ?_
  rintro e w4 ⟨rfl, hr4, hg4⟩
  have s4 := hg4.size
  have hPb2 : w.heap.size + 2 ≤ Pb := by omega
  have H4 : Hid (w4.rowIs w.heap.size 26 5 (p5 nilS nilS 0 0 0) ∧ w4.ownsRow (w.heap.size + 2) 46 2 (.slice av C.P.np cv) C.P.np (pairs C.P.L C.P.B C.P.np) ∧ w4.ownsRow (w.heap.size + 2) 49 3 (.slice au C.P.nz cu) C.P.nz (triples C.P.F C.P.T C.P.S C.P.nz) ∧ Reads w4 (w.heap.size + 1) a cap C C.d2 ∧ w.grownBy w4 (some (w.heap.size + 1)) ∧ w4.rowIs Pb 26 5 (p5 (.slice av C.P.np cv) (.slice au C.P.nz cu) C.P.train C.P.fin C.P.delay)) := by
    obtain ⟨o1, o2, o3, o4, o5, o6⟩ := H3.out
    exact ⟨rowIs_grown o1 hg4 (by simp), owned_grown o2 hg4 (fun j e he => by have h1 := ownsRow_block o2 j he; have h2 := Option.some.inj e; omega), owned_grown o3 hg4 (fun j e he => by have h1 := ownsRow_block o3 j he; have h2 := Option.some.inj e; omega), hr4, grown_tr o5 hg4, rowIs_grown o6 hg4 (fun e => by have h2 := Option.some.inj e; omega)⟩
  clear hr4 hg4 H3
  rw [show C.wideVal C.d1 (C.P.fin + 1) = C.x from rfl]
  have x0 : w4.cell? ⟨Pb, 0, none⟩ = some (.slice av C.P.np cv) := H4.out.2.2.2.2.2.cell (i := 0) (by omega)
  have x1 : w4.cell? ⟨Pb, 1, none⟩ = some (.slice au C.P.nz cu) := H4.out.2.2.2.2.2.cell (i := 1) (by omega)
  have x2 : w4.cell? ⟨Pb, 2, none⟩ = some (.int .i64 C.P.train) := H4.out.2.2.2.2.2.cell (i := 2) (by omega)
  have x3 : w4.cell? ⟨Pb, 3, none⟩ = some (.int .i64 C.P.fin) := H4.out.2.2.2.2.2.cell (i := 3) (by omega)
  have x4 : w4.cell? ⟨Pb, 4, none⟩ = some (.int .i64 C.P.delay) := H4.out.2.2.2.2.2.cell (i := 4) (by omega)
  have hd2 : C.d2.pos = C.d1.pos + 2 := C.wideCur_pos C.d1
  have hPlt : Pb < w4.heap.size := World.block_lt_of_cell? _ _ x0
  have cW : Hid (Calls Tryd.prog 14 #[.pointer (some ⟨w.heap.size + 1, 0, none⟩)] w4.drew fun e w' => ∃ av3 cv3, e = .returned (.slice av3 C.nw cv3) ∧ w'.ownsRow w4.heap.size 3 1 (.slice av3 C.nw cv3) C.nw (singles C.ws C.nw) ∧ w4.drew.grownBy w' (some (w.heap.size + 1)) ∧ (∀ i, w'.cell? ⟨Pb, i, none⟩ = w4.cell? ⟨Pb, i, none⟩) ∧ w'.rowIs w.heap.size 26 5 (p5 nilS nilS 0 0 0)) := by
    show Calls _ _ _ _ _
    refine (wants_any C HC.out a cap (w.heap.size + 1) C.d2 w4.drew (H4.out.2.2.2.1.grown (grown_one w4 none) (fun j e => by cases e)) (by omega) (by omega)).mono ?_
    rintro e w5 ⟨v3, rfl, ho3, hg5⟩
    obtain ⟨a3, c3, rfl, _, _, _⟩ := owned_shape ho3
    exact ⟨a3, c3, rfl, ho3, hg5, fun i => World.cell?_of_block (a := ⟨Pb, i, none⟩) (hg5.block Pb hPlt (fun e => by have h2 := Option.some.inj e; omega)), rowIs_grown (rowIs_grown H4.out.1 (grown_one w4 none) (by simp)) hg5 (by simp)⟩
  have hne5 : ¬ (Pb = w.heap.size) := by omega
  clear hd2
  have eW : Hid (∀ args w, (callFunc 14 args).run Tryd.prog w = .ok (.enter 14 args) w) := enters_of Tryd.func14 (by kernel_rfl) rfl
  go_wp2_with fail
  go_region_law (first
    | (refine step_call1 rfl 14 (.tmp 23) _ rfl (.pointer (some ⟨w.heap.size + 1, 0, none⟩)) (by simp [Act.eval, Act.put]) eW.out cW.out ?_; rintro e w5 ⟨a3, c3, rfl, ho3, hg5, hcell5, hR5⟩; refine ⟨_, rfl, ?_⟩; have H5 : Hid (w5.ownsRow w4.heap.size 3 1 (.slice a3 C.nw c3) C.nw (singles C.ws C.nw) ∧ w4.drew.grownBy w5 (some (w.heap.size + 1)) ∧ w5.rowIs w.heap.size 26 5 (p5 nilS nilS 0 0 0)) := ⟨ho3, hg5, hR5⟩; have y0 : w5.cell? ⟨w.heap.size, 0, none⟩ = some nilS := hR5.cell (i := 0) (by omega); have y1 : w5.cell? ⟨w.heap.size, 1, none⟩ = some nilS := hR5.cell (i := 1) (by omega); have y2 : w5.cell? ⟨w.heap.size, 2, none⟩ = some (.int .i64 0) := hR5.cell (i := 2) (by omega); have y3 : w5.cell? ⟨w.heap.size, 3, none⟩ = some (.int .i64 0) := hR5.cell (i := 3) (by omega); have y4 : w5.cell? ⟨w.heap.size, 4, none⟩ = some (.int .i64 0) := hR5.cell (i := 4) (by omega); have yf := hR5.frozen; have z0 := (hcell5 0).trans x0; have z1 := (hcell5 1).trans x1; have z2 := (hcell5 2).trans x2; have z3 := (hcell5 3).trans x3; have z4 := (hcell5 4).trans x4; clear ho3 hg5 hR5 hcell5))
  all_goals
    go_wp2
    refine bodyPost_ret (v := .tuple #[.agg #[.slice av C.P.np cv, .slice au C.P.nz cu, .int .i64 C.P.train, .int .i64 C.P.fin, .int .i64 C.P.delay], .int .i64 C.x, .slice a3 C.nw c3]) (by simp [results, Tryd.results4, go_sem, *]) rfl ⟨_, _, _, rfl, ?_⟩
    obtain ⟨q1, q2, q3, q4, q5, q6⟩ := H4.out
    obtain ⟨t1, t2, t3⟩ := H5.out
    have u1 := owned_grown (owned_grown q2 (grown_one w4 none) (fun j e => by cases e)) t2 (fun j e he => by have h1 := ownsRow_block q2 j he; have h2 := Option.some.inj e; omega)
    have u2 := owned_grown (owned_grown q3 (grown_one w4 none) (fun j e => by cases e)) t2 (fun j e he => by have h1 := ownsRow_block q3 j he; have h2 := Option.some.inj e; omega)
    have u3 : w.grownBy w5 (some (w.heap.size + 1)) := grown_tr (grown_new q5 (grown_one w4 none) (fun j e => by cases e)) t2
    have g5 : ∀ (X : World) (v0 v1 v2 v3 v4 : Value), X.grownBy (((((X.setCell ⟨w.heap.size, 0, none⟩ v0).setCell ⟨w.heap.size, 1, none⟩ v1).setCell ⟨w.heap.size, 2, none⟩ v2).setCell ⟨w.heap.size, 3, none⟩ v3).setCell ⟨w.heap.size, 4, none⟩ v4) (some w.heap.size) := fun X v0 v1 v2 v3 v4 => grown_tr (grown_tr (grown_tr (grown_tr (grown_set _ _ _ _) (grown_set _ _ _ _)) (grown_set _ _ _ _)) (grown_set _ _ _ _)) (grown_set _ _ _ _)
    exact ⟨ownsRow_base (owned_grown u1 (g5 _ _ _ _ _ _) (fun j e he => by have h1 := ownsRow_block u1 j he; have h2 := Option.some.inj e; omega)) (by omega), ownsRow_base (owned_grown u2 (g5 _ _ _ _ _ _) (fun j e he => by have h1 := ownsRow_block u2 j he; have h2 := Option.some.inj e; omega)) (by omega), ownsRow_base (owned_grown t1 (g5 _ _ _ _ _ _) (fun j e he => by have h1 := ownsRow_block t1 j he; have h2 := Option.some.inj e; omega)) (by omega), below_grown (grown_new u3 (g5 _ _ _ _ _ _) (fun j e => by have h2 := Option.some.inj e; omega)) (by omega)⟩

end Go.Proofs.YteodefmpkljedaaDoor
