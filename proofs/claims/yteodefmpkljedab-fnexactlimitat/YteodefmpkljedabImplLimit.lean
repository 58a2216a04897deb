/-
  The program's LimitAt: a range over the zones at a place.
-/
import Derived.RangeFuncNested
import Derived.RangeFuncBound
import Derived.RangeFuncCalls
import Derived.RangeFuncLeaves
import Derived.Shelf.Abstract
import Derived.Shelf.RegionOpen
import Derived.OwnWalkIn
import Derived.TacticsInMore
import Derived.LoopNIn
import Derived.LoopIn
import Derived.Test.YteodefmpkljedabSpecAt
namespace Go.Proofs.Yteodefmpkljedab
open Go.RowKit Go.Shelf
set_option linter.unusedVariables false

attribute [local go_sem] Oper.semAt_some

/-- The cells below n stand, but for one block. -/
def KeepBut (n B : Nat) (W W' : World) : Prop := W.heap.size ≤ W'.heap.size ∧ ∀ b o, b < n → b ≠ B → W'.cell? ⟨b, o, none⟩ = W.cell? ⟨b, o, none⟩
theorem KeepBut.refl (n B : Nat) (W : World) : KeepBut n B W W := ⟨Nat.le_refl _, fun _ _ _ _ => rfl⟩
theorem KeepBut.trans {n B : Nat} {X Y Z : World} (h : KeepBut n B X Y) (k : KeepBut n B Y Z) : KeepBut n B X Z := ⟨Nat.le_trans h.1 k.1, fun b o hb hne => (k.2 b o hb hne).trans (h.2 b o hb hne)⟩
theorem KeepBut.of_below {n B : Nat} {W W' : World} (h : Below n W W') : KeepBut n B W W' := ⟨h.size, fun b o hb _ => h.cell (p := ⟨b, o, none⟩) hb⟩
theorem KeepBut.setCell {n B : Nat} (W : World) (o : Nat) (v : Value) : KeepBut n B W (W.setCell ⟨B, o, none⟩ v) := ⟨by simp, fun b o' hb hne => World.cell?_setCell_other _ _ _ _ (by intro c; cases c; exact hne rfl)⟩

/-- A block of cells. -/
def Cells (W : World) (B : Nat) (t : TypeId) (cs : Array Value) : Prop := W.heap[B]? = some (.cells cs t (0, 0))
theorem cells_own {β : Type} (B : Nat) (t : TypeId) (f : β → Array Value) : Own (fun s W => Cells W B t (f s)) := fun s X Y row hs hg hrow =>
  (hg.block B (Array.getElem?_eq_some_iff.1 hs).1 (fun e' => by obtain ⟨o, ho, hc⟩ := hrow B e'.symm; rw [show X.heap[B]? = _ from hs] at ho; cases ho; cases hc)).trans hs
theorem Cells.cell {W : World} {B : Nat} {t : TypeId} {cs : Array Value} (h : Cells W B t cs) (i : Nat) : W.cell? ⟨B, i, none⟩ = cs[i]? := by simp [World.cell?, show W.heap[B]? = _ from h]

def encZone (z : Int × Int × Int) : Array Value := #[.agg #[.int .i64 z.1, .int .i64 z.2.1, .int .i64 z.2.2]]

set_option maxRecDepth 100000 in
set_option maxHeartbeats 2000000 in
theorem zones1_in (F : Fence) (n : Nat) (hf : F.fn 132) (hro : F.round = none) (hn : 1 ≤ n) (l B1 B2 n₀ Bl : Nat) (P : Prof) (x : Int) (az : Option Addr) (cz : Nat) (hok : P.Ok) (h1 : B1 < n₀) (h2 : B2 < n₀) (h1' : B1 ≠ Bl) (h2' : B2 ≠ Bl)
    (J Jx : List (Int × Int × Int) → World → Prop) (W : World) (hW : n₀ ≤ W.heap.size) (hJ : AbidesFrom W.heap.size J)
    (hY : ∀ pre z W1, J pre W1 → pre.length < P.nz → YieldAt F (n - 1) Try.prog l (encZone z) W1 fun e W' =>
      (e = .returned (.bool true) ∧ J (pre ++ [z]) W' ∧ KeepBut n₀ Bl W1 W') ∨ (e = .returned (.bool false) ∧ Jx (pre ++ [z]) W'))
    (hz : P.nz = 0 ∨ ∃ b off, az = some ⟨b, off, none⟩ ∧ b < n₀ ∧ b ≠ Bl ∧ ∀ j, j < P.nz → W.cell? ⟨b, off + j * 3, none⟩ = some (.int .i64 (P.F j)) ∧ W.cell? ⟨b, off + j * 3 + 1, none⟩ = some (.int .i64 (P.T j)) ∧ W.cell? ⟨b, off + j * 3 + 2, none⟩ = some (.int .i64 (P.S j)))
    (c1 : W.cell? ⟨B1, 1, none⟩ = some (.slice az P.nz cz)) (c2 : W.cell? ⟨B1, 2, none⟩ = some (.int .i64 P.train)) (c3 : W.cell? ⟨B2, 0, none⟩ = some (.int .i64 x)) (h0 : J [] W) :
    CallsIn F n Try.prog 132 #[.func (.yield l) #[] #[], .pointer (some ⟨B1, 0, none⟩), .pointer (some ⟨B2, 0, none⟩)] W fun e W' => (∃ v, e = .returned v) ∧
      ((∃ ys, ys = P.zonesTo x P.nz ∧ J ys W') ∨ (∃ pre, True ∧ Jx pre W')) := by
  have hnz := hok.counts.2.2
  obtain ⟨t0, t1⟩ := hok.train
  have htot := (Prof.total_bounds hok.lens).2
  have HZ : Hid P.ZonesOk := hok.zones
  have HR : Hid (P.nz = 0 ∨ ∃ b off, az = some ⟨b, off, none⟩ ∧ b < n₀ ∧ b ≠ Bl ∧ ∀ j, j < P.nz → W.cell? ⟨b, off + j * 3, none⟩ = some (.int .i64 (P.F j)) ∧ W.cell? ⟨b, off + j * 3 + 1, none⟩ = some (.int .i64 (P.T j)) ∧ W.cell? ⟨b, off + j * 3 + 2, none⟩ = some (.int .i64 (P.S j))) := hz
  clear hok hz
  refine callsIn_of_wp Try.func132 rfl hf ?_ hro
  simp only [Try.ntmps132, List.size_toArray, List.length_cons, List.length_nil, Nat.reduceAdd, Nat.reduceSub, Array.replicate_succ, Array.replicate_zero, List.push_toArray, List.append_toArray, List.nil_append, List.cons_append]
  gi_wp2
  gi_loopw [10] (fun i wr => ∃ k : Nat, k ≤ P.nz ∧ i = .int .i64 k ∧ J (P.zonesTo x k) wr ∧ KeepBut n₀ Bl W wr)
    (fun i _ => P.nz - (intOf i).toNat)
  case atStart => exact ⟨0, Nat.zero_le _, rfl, h0, KeepBut.refl _ _ _⟩
  case round =>
    obtain ⟨k, hk, rfl, hJs, hkp⟩ := hrel
    by_cases hlt : k < P.nz
    · rcases HR.out with e0 | ⟨b, off, rfl, hb, hb', hc⟩
      · omega
      · obtain ⟨d0, d1, d2⟩ := hc k hlt
        have a0 := (hkp.2 b (off + k * 3) hb hb').trans d0
        have a1 := (hkp.2 b (off + k * 3 + 1) hb hb').trans d1
        have a2 := (hkp.2 b (off + k * 3 + 2) hb hb').trans d2
        have e2 := (hkp.2 B1 2 h1 h1').trans c2
        have e3 := (hkp.2 B2 0 h2 h2').trans c3
        obtain ⟨⟨f0, f1⟩, ⟨t2, t3⟩, s0, s1⟩ := HZ.out k hlt
        have hs := hkp.1
        have l1 : B1 < wr.heap.size := by omega
        have l2 : B2 < wr.heap.size := by omega
        clear hc d0 d1 d2
        have hJa : J (P.zonesTo x k) (wr.alloc (.cells #[.int .i64 (P.F k), .int .i64 (P.T k), .int .i64 (P.S k)] 76)) := hJ _ _ _ none hJs (World.grownBy_alloc _ _ none) (fun r e => by cases e)
        have hka : KeepBut n₀ Bl W (wr.alloc (.cells #[.int .i64 (P.F k), .int .i64 (P.T k), .int .i64 (P.S k)] 76)) := hkp.trans (KeepBut.of_below ((Below.refl _ _).alloc (by omega) _))
        by_cases q : P.F k ≤ x ∧ x ≤ P.T k + P.train
        · have HQ : Hid (P.zonesTo x (k + 1) = P.zonesTo x k ++ [(P.F k, P.T k, P.S k)]) := by show _ = _; rw [Prof.zonesTo, if_pos q]
          obtain ⟨q1, q2⟩ := q
          obtain ⟨fn, tmps, assign, body, hy, hR⟩ := hY _ (P.F k, P.T k, P.S k) _ hJa (by have := P.zonesTo_length x k; omega)
          dsimp only [encZone] at hy
          gi_wp2
          refine hR.mono ?_
          rintro e W3 (⟨rfl, hJ3, hk3⟩ | ⟨rfl, hJx3⟩)
          · gi_wp2
            go_roundw
            case rel => exact ⟨k + 1, by omega, by go_num, by rw [HQ.out]; exact hJ3, hka.trans hk3⟩
            case measure => simp [intOf]; omega
          · gi_wp2
            refine bodyPost_ret (results_none rfl _ _ _) rfl ?_
            exact ⟨⟨_, rfl⟩, .inr ⟨_, trivial, hJx3⟩⟩
        · have HQ : Hid (P.zonesTo x (k + 1) = P.zonesTo x k) := by show _ = _; rw [Prof.zonesTo, if_neg q]
          by_cases q1 : P.F k ≤ x
          · have q2 : decide (x ≤ P.T k + P.train) = false := by simp; omega
            clear q
            gi_wp2
            refine ⟨fun _ h => (by cases h), ?_⟩
            gi_wp2
            go_roundw
            case rel => exact ⟨k + 1, by omega, by go_num, by rw [HQ.out]; exact hJa, hka⟩
            case measure => simp [intOf]; omega
          · have q1' : decide (P.F k ≤ x) = false := by simpa using q1
            clear q
            gi_wp2
            refine ⟨fun _ h => (by cases h), ?_⟩
            gi_wp2
            go_roundw
            case rel => exact ⟨k + 1, by omega, by go_num, by rw [HQ.out]; exact hJa, hka⟩
            case measure => simp [intOf]; omega
    · have e : k = P.nz := by omega
      subst e
      gi_wp2
      go_end0
      exact ⟨⟨_, rfl⟩, .inl ⟨_, rfl, hJs⟩⟩

set_option maxHeartbeats 1000000 in
theorem zonesAt_in (F : Fence) (n : Nat) (hf : F.fn 116) (hro : F.round = none) (P : Prof) (ap az : Option Addr) (cp cz g : Nat) (x : Int) (w : World) :
    CallsIn F n Try.prog 116 #[.agg #[.slice ap P.np cp, .slice az P.nz cz, .int .i64 P.train, .int .i64 P.fin, .int .i64 P.delay, .slice (some ⟨g, 0, none⟩) P.np P.np], .int .i64 x] w fun e w' => e = .returned (.func (.func 132) #[] #[.pointer (some ⟨w.heap.size, 0, none⟩), .pointer (some ⟨w.heap.size + 1, 0, none⟩)]) ∧ w' = (w.alloc (.cells #[.slice ap P.np cp, .slice az P.nz cz, .int .i64 P.train, .int .i64 P.fin, .int .i64 P.delay, .slice (some ⟨g, 0, none⟩) P.np P.np] 82)).alloc (.cells #[.int .i64 x] 3) := by
  have hmf : ∀ (fn : Fn) (first cap : Array Value) (w : World), (Instr.makeFunc fn first cap).run Try.prog w = .ok (.func fn first cap) w := fun _ _ _ _ => rfl
  refine callsIn_of_wp Try.func116 rfl hf ?_ hro
  simp only [Try.ntmps116, List.size_toArray, List.length_cons, List.length_nil, Nat.reduceAdd, Nat.reduceSub, Array.replicate_succ, Array.replicate_zero, List.push_toArray, List.append_toArray, List.nil_append, List.cons_append]
  gi_wp2
  go_ret
  exact ⟨rfl, rfl⟩

set_option maxRecDepth 100000 in
set_option maxHeartbeats 2000000 in
theorem limitAt_in (F : Fence) (n : Nat) (hf1 : F.fn 79) (hf2 : F.fn 116) (hf3 : F.fn 132) (hro : F.round = none) (hn : 3 ≤ n) (P : Prof) (v : Value) (x : Int) (w : World) (hl : P.WayIs w v) (hok : P.Ok) :
    CallsIn F n Try.prog 79 #[v, .int .i64 x] w fun e W' => e = .returned (.int .i64 (P.over x x)) ∧ Below w.heap.size w W' := by
  have h1 : 1 ≤ n := by omega
  obtain ⟨ap, cp, az, cz, g, rfl, hnp, hnz, hr2, hr3, hrow⟩ := hl
  have HR3 : Hid (Row3 w az P.nz P.F P.T P.S) := hr3
  have HOK : Hid P.Ok := hok
  clear hr2 hr3 hrow hok
  refine callsIn_of_wp_marks Try.func79 rfl hf1 ?_ hro
  simp only [Try.ntmps79, List.size_toArray, List.length_cons, List.length_nil, Nat.reduceAdd, Nat.reduceSub, Array.replicate_succ, Array.replicate_zero, List.push_toArray, List.append_toArray, List.nil_append, List.cons_append]
  gi_wp2_with (gi_at_call 116; refine (zonesAt_in F (n - 1) hf2 hro P ap az cp cz g x _).mono ?_; rintro e w' ⟨rfl, rfl⟩)
  obtain ⟨W0, hW0⟩ : ∃ W0, (((w.alloc (.cells #[.slice ap P.np cp, .slice az P.nz cz, .int .i64 P.train, .int .i64 P.fin, .int .i64 P.delay, .slice (some ⟨g, 0, none⟩) P.np P.np] 82)).alloc (.cells #[.int .i64 10000] 3)).alloc (.cells #[.slice ap P.np cp, .slice az P.nz cz, .int .i64 P.train, .int .i64 P.fin, .int .i64 P.delay, .slice (some ⟨g, 0, none⟩) P.np P.np] 82)).alloc (.cells #[.int .i64 x] 3) = W0 := ⟨_, rfl⟩
  rw [hW0]
  have sz : W0.heap.size = w.heap.size + 4 := by rw [← hW0]; simp
  have bS : Boxed W0 (w.heap.size + 1) 3 (.int .i64 10000) := by
    have := ((Boxed.new (w.alloc (.cells #[.slice ap P.np cp, .slice az P.nz cz, .int .i64 P.train, .int .i64 P.fin, .int .i64 P.delay, .slice (some ⟨g, 0, none⟩) P.np P.np] 82)) 3 (.int .i64 10000)).alloc (.cells #[.slice ap P.np cp, .slice az P.nz cz, .int .i64 P.train, .int .i64 P.fin, .int .i64 P.delay, .slice (some ⟨g, 0, none⟩) P.np P.np] 82)).alloc (.cells #[.int .i64 x] 3)
    rw [hW0, World.size_alloc] at this
    exact this
  have c1 : W0.cell? ⟨w.heap.size + 1 + 1, 1, none⟩ = some (.slice az P.nz cz) := by subst hW0; go_simp
  have c2 : W0.cell? ⟨w.heap.size + 1 + 1, 2, none⟩ = some (.int .i64 P.train) := by subst hW0; go_simp
  have c3 : W0.cell? ⟨w.heap.size + 1 + 1 + 1, 0, none⟩ = some (.int .i64 x) := by subst hW0; go_simp
  have hB0 : Below w.heap.size w W0 := by rw [← hW0]; exact ((((Below.refl _ w).alloc (Nat.le_refl _) _).alloc (by simp) _).alloc (by simp; omega) _).alloc (by simp; omega) _
  clear hW0
  have hseq : SeqStopsK F (n - 1) Try.prog 132 #[.pointer (some ⟨w.heap.size + 1 + 1, 0, none⟩), .pointer (some ⟨w.heap.size + 1 + 1 + 1, 0, none⟩)] encZone (KeepBut (w.heap.size + 4) (w.heap.size + 1)) (fun ys => ys = P.zonesTo x P.nz) (fun _ => True) P.nz W0 := by
    intro l J Jx W hW hJ hJx hY h0
    refine zones1_in F (n - 1) hf3 hro (by omega) l (w.heap.size + 1 + 1) (w.heap.size + 1 + 1 + 1) (w.heap.size + 4) (w.heap.size + 1) P x az cz HOK.out (by omega) (by omega) (by omega) (by omega) J Jx W (by have := hW.size; omega) hJ hY ?_ ((hW.cell (p := ⟨w.heap.size + 1 + 1, 1, none⟩) (by simp; omega)).trans c1) ((hW.cell (p := ⟨w.heap.size + 1 + 1, 2, none⟩) (by simp; omega)).trans c2) ((hW.cell (p := ⟨w.heap.size + 1 + 1 + 1, 0, none⟩) (by simp; omega)).trans c3) h0
    rcases HR3.out.below (hB0.trans (hW.mono hB0.size)) with e0 | ⟨b, off, rfl, hb, hc⟩
    · exact Or.inl e0
    · rcases HR3.out with e0 | ⟨b', off', he, hb', _⟩
      · exact Or.inl e0
      · cases he
        exact Or.inr ⟨b, off, rfl, by omega, by omega, hc⟩
  refine wpIn_rangeFunc_ownH hro h1 (gf := 132) (lb := #[.pointer (some ⟨w.heap.size + 1 + 1, 0, none⟩), .pointer (some ⟨w.heap.size + 1 + 1 + 1, 0, none⟩)]) rfl hf3 (enters_of Try.func132 (by kernel_rfl) rfl)
    hseq KeepBut.trans (fun W l o o' hl ho hc hw => KeepBut.of_below (belowK_b (w := W0) (by omega) W l o o' hl ho hc hw)) (Below.refl _ _) (fun _ => rfl)
    (fun pre W => (Boxed W (w.heap.size + 1) 3 (.int .i64 (leastOf pre)) ∧ Below w.heap.size w W) ∧ w.heap.size + 4 ≤ W.heap.size)
    (fun _ _ _ => False)
    (OwnFrom.and (OwnFrom.and (Own.from (boxed_own _ _ _) _) (ownFrom_below (Nat.le_refl _) (by omega))) (fun _ X Y row hs hg hr => Nat.le_trans hs hg.size))
    (fun _ _ _ _ _ hs _ _ => hs)
    ⟨⟨bS, hB0⟩, by omega⟩
    (fun z a' W => ∃ Bx, w.heap.size + 1 < Bx ∧ Cells W Bx 76 #[.int .i64 z.1, .int .i64 z.2.1, .int .i64 z.2.2] ∧ a' = { tmps := #[.agg #[.slice ap P.np cp, .slice az P.nz cz, .int .i64 P.train, .int .i64 P.fin, .int .i64 P.delay, .slice (some ⟨g, 0, none⟩) P.np P.np], .int .i64 x, .pointer (some ⟨w.heap.size, 0, none⟩), undef, .int .i64 0, .pointer (some ⟨w.heap.size + 1, 0, none⟩), .pointer (some ⟨Bx, 0, none⟩), .agg #[.slice ap P.np cp, .slice az P.nz cz, .int .i64 P.train, .int .i64 P.fin, .int .i64 P.delay, .slice (some ⟨g, 0, none⟩) P.np P.np], .int .i64 x, .func (.func 132) #[] #[.pointer (some ⟨w.heap.size + 1 + 1, 0, none⟩), .pointer (some ⟨w.heap.size + 1 + 1 + 1, 0, none⟩)], .agg #[.int .i64 z.1, .int .i64 z.2.1, .int .i64 z.2.2], undef, undef, undef, undef, undef], defers := [] })
    (fun z a' _ X Y row hs hg hr => by obtain ⟨Bx, h1, h2, h3⟩ := hs; exact ⟨Bx, h1, cells_own Bx 76 (fun (_ : Unit) => #[Value.int .i64 z.1, .int .i64 z.2.1, .int .i64 z.2.2]) () X Y row h2 hg (fun r e => (hr r e).2), h3⟩)
    ?assign ?body ?done ?stop
  case assign =>
    rintro l pre ⟨f, t, s⟩ W K ⟨⟨bS1, hB1⟩, hs1⟩ hK
    simp only [encZone]
    gi_wp2
    exact hK _ _ ((KeepsOthers.alloc _ _).from _) (KeepBut.of_below ((Below.refl _ W).alloc hs1 _)) ⟨⟨bS1.alloc _, hB1.alloc hB1.size _⟩, by simp; omega⟩ ⟨W.heap.size, by omega, World.alloc_heap_new W _, rfl⟩
  case body =>
    rintro l pre ⟨f, t, s⟩ a' W hl hr ⟨⟨bS1, hB1⟩, hs1⟩ ⟨Bx, hBx, bX, rfl⟩ hlt
    have cS := bS1.cell
    have fS := bS1.frozen
    have cX : W.cell? ⟨Bx, 2, none⟩ = some (.int .i64 s) := bX.cell 2
    by_cases q : s < leastOf pre
    · have HE : Hid (leastOf (pre ++ [(f, t, s)]) = s) := by show _ = _; rw [leastOf_snoc, if_pos q]
      gi_wp2
      exact ⟨(KeepsOthers.setCell _ _ _).from _, KeepBut.setCell _ _ _, ⟨⟨by rw [HE.out]; exact bS1.set _, hB1.setCell (p := ⟨w.heap.size + 1, 0, none⟩) (by simp) _⟩, by simpa using hs1⟩⟩
    · have HE : Hid (leastOf (pre ++ [(f, t, s)]) = leastOf pre) := by show _ = _; rw [leastOf_snoc, if_neg q]
      gi_wp2
      exact ⟨(KeepsOthers.setCell _ _ _).from _, KeepBut.setCell _ _ _, ⟨⟨by rw [HE.out]; exact bS1.set _, hB1.setCell (p := ⟨w.heap.size + 1, 0, none⟩) (by simp) _⟩, by simpa using hs1⟩⟩
  case done =>
    rintro D zs W hD rfl ⟨⟨bS1, hB1⟩, hs1⟩ hK
    have cS := bS1.cell
    rw [show leastOf (P.zonesTo x P.nz) = P.over x x from P.leastOf_zones x P.nz] at cS
    gi_wp2
    refine ⟨by simp, .inl ⟨_, _, rfl, run_takeDeferred hK, ?_⟩⟩
    exact ⟨_, results_tmp rfl _ _ _, rfl, hB1.trans (belowK_b (w := w) (Nat.le_refl _) W D _ _ (by omega) hK rfl rfl)⟩
  case stop =>
    rintro D c pre W _ _ h _
    exact h.elim

theorem limitAt_any (P : Prof) (v : Value) (x : Int) (w : World) (hl : P.WayIs w v) (hok : P.Ok) :
    Calls Try.prog 79 #[v, .int .i64 x] w fun e w' => e = .returned (.int .i64 (P.over x x)) ∧ Below w.heap.size w w' :=
  (callsIn_wide (n := 3)).1 (limitAt_in Fence.wide 3 trivial trivial trivial rfl (by omega) P v x w hl hok)

set_option maxHeartbeats 2000000 in
theorem implLimitAt_yes (P : Prof) (v : Value) (x : Int) (w : World) (hl : P.Lies w v) (h : P.With x) :
    Calls Try.prog 24 #[v, .int .i64 x] w fun e w' => e = .returned (.int .i64 (P.limitAns x)) ∧ Below w.heap.size w w' := by
  have HV : Hid (P.Lies w v) := hl
  have HA : Hid (P.With x) := h
  obtain ⟨ap, cp, az, cz, rfl, hn, hn', hr2, hr3⟩ := hl
  clear hr2 hr3 h
  go_enter Try.func24, Try.ntmps24
  go_wp2_with fail
  have b0 : Below w.heap.size w (w.alloc (.cells #[.slice ap P.np cp, .slice az P.nz cz, .int .i64 P.train, .int .i64 P.fin, .int .i64 P.delay] 33)) := (Below.refl _ _).alloc (Nat.le_refl _) _
  refine (wayWith_yes P _ x _ (HV.out.below b0) HA.out).mono ?_
  rintro e w2 ⟨v', rfl, hway, hb2⟩
  have b2 := b0.trans (hb2.mono b0.size)
  have HWAY : Hid (P.WayIs w2 v') := hway
  obtain ⟨bp, dp, bz, dz, g, rfl, _, _, _, _, hrow⟩ := hway
  clear hb2 hrow b0
  go_wp2_with fail
  have bq : Below w2.heap.size w2 (w2.alloc (.cells #[.slice bp P.np dp, .slice bz P.nz dz, .int .i64 P.train, .int .i64 P.fin, .int .i64 P.delay, .slice (some ⟨g, 0, none⟩) P.np P.np] 82)) := (Below.refl _ _).alloc (Nat.le_refl _) _
  refine (limitAt_any P _ x _ (HWAY.out.below bq) HA.out.1).mono ?_
  rintro e w4 ⟨rfl, hb4⟩
  have b4 := (b2.trans (bq.mono b2.size)).trans (hb4.mono (by have := b2.size; simp; omega))
  clear hb4 bq
  go_wp2
  go_ret
  exact ⟨ret_int (limitAns_yes HA.out).symm, b4⟩

set_option maxHeartbeats 2000000 in
theorem implLimitAt_no (P : Prof) (v : Value) (x : Int) (w : World) (hl : P.Lies w v) (h : ¬ P.With x) :
    Calls Try.prog 24 #[v, .int .i64 x] w fun e w' => e = .returned (.int .i64 (P.limitAns x)) ∧ Below w.heap.size w w' := by
  have HV : Hid (P.Lies w v) := hl
  have HA : Hid (¬ P.With x) := h
  obtain ⟨ap, cp, az, cz, rfl, hn, hn', hr2, hr3⟩ := hl
  clear hr2 hr3 h
  go_enter Try.func24, Try.ntmps24
  go_wp2_with fail
  have b0 : Below w.heap.size w (w.alloc (.cells #[.slice ap P.np cp, .slice az P.nz cz, .int .i64 P.train, .int .i64 P.fin, .int .i64 P.delay] 33)) := (Below.refl _ _).alloc (Nat.le_refl _) _
  refine (wayWith_no P _ x _ (HV.out.below b0) HA.out).mono ?_
  rintro e w2 ⟨rfl, hb2⟩
  have b2 := b0.trans (hb2.mono b0.size)
  clear hb2 b0
  go_wp2
  go_ret
  exact ⟨ret_int (limitAns_no HA.out).symm, b2.alloc b2.size _⟩

theorem implLimitAt_any (P : Prof) (v : Value) (x : Int) (w : World) (hl : P.Lies w v) :
    Calls Try.prog 24 #[v, .int .i64 x] w fun e w' => e = .returned (.int .i64 (P.limitAns x)) ∧ Below w.heap.size w w' := by
  by_cases h : P.With x
  · exact implLimitAt_yes P v x w hl h
  · exact implLimitAt_no P v x w hl h

end Go.Proofs.Yteodefmpkljedab
