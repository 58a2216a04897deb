/-
  The walk of FnTight, laid into the frame that the kit's program prints.
-/
import Derived.Test.YteodefmpkljedaaRows
import Derived.WalkKit
import Derived.ProofKit
import Derived.OpenShut
import Derived.ShutString
import Derived.ChangeOld
import Derived.Below
import Derived.Test.YteodefmpkljedaaTight
import Derived.Test.YteodefmpkljedaaBytes2
import Derived.Test.YteodefmpkljedaaSpecSafe2
import Derived.Test.YteodefmpkljedaaSpecOk
import Derived.Test.YteodefmpkljedaaImplMostNow
import Derived.Test.YteodefmpkljedaaImplSafe
import Derived.Test.YteodefmpkljedaaImplOk2
import Derived.Test.YteodefmpkljedaaSpecWatch2
import Derived.Test.YteodefmpkljedaaUntil
import Derived.Lib.QuietBelow
import Derived.BigQuiet
import Derived.Deep.RegionHeld3
import Derived.Deep.RegionLaw
import Derived.Laws.AppendOwnNone
import Derived.Deep.CutBlock
namespace Go.Proofs.Yteodefmpkljedaa.fnTight
open Go.ChangeShapes Go.WideShapes Go.ChangeAt Go.RowKit
open Go.ChangeMaps (open_string shut_string)
set_option linter.unusedVariables false

theorem own : ownKnob Try.prog.godebug = none := by kernel_rfl
theorem laidOut : laidOutB Try.prog = true := by kernel_rfl

/-- WHAT THE WALK IS TOLD OF A SLICE OF INTEGERS THAT CAME IN: it is nil; or it leads to a row of 'cap' cells, the numbers 'zs' (the first 'len' are its elements, the rest its spare room), each fitting its kind. -/
def IsRow (k : IntKind) (w : World) (a : Option Addr) (len cap : Nat) (zs : List Int) : Prop :=
  (a = none ∧ len = 0 ∧ cap = 0 ∧ zs = []) ∨
  ∃ x, a = some x ∧ len ≤ cap ∧ cap ≤ maxLen ∧ zs.length = cap ∧ (∀ i, i < zs.length → w.cell? (x.add i) = some (.int k (zs.getD i 0))) ∧ ∀ n ∈ zs, (Lit.int k n).wf = true

theorem lawRow {w : World} {a : Option Addr} {len cap : Nat} {zs : List Int} (h : IsRow .u8 w a len cap zs) : RowOk w a len := by
  rcases h with ⟨rfl, rfl, rfl, rfl⟩ | ⟨x, rfl, h1, h2, h3, h4, h5⟩
  · exact ⟨by unfold maxLen; omega, Or.inl rfl⟩
  · refine ⟨by omega, ?_⟩
    by_cases hz : len = 0
    · exact Or.inl hz
    · obtain ⟨b, off, rfl, hc⟩ := ints_at h4 (by omega)
      have hb := World.block_lt_of_cell? _ _ (hc 0 (by omega))
      exact Or.inr ⟨b, off, zs, rfl, hb, by omega, hc, h5⟩
theorem Try.infoZoneT : (Try.prog.info? 43).map (fun i => (i.zero, i.size, i.bytes)) = some (some (.agg #[.int .i64 0, .int .i64 0, .int .i64 0]), 3, 24) := by kernel_rfl

set_option maxRecDepth 100000 in set_option maxHeartbeats 16000000 in
theorem walk (a0 : Option Addr) (len0 cap0 : Nat) (z0 : List Int) (w : World) (w0 : IsRow .u8 w a0 len0 cap0 z0) :
    Calls Try.prog 7 #[.slice a0 len0 cap0] w fun e w' => e = .returned (.bool true) ∧ Below w.heap.size w w' := by
  have hrow : Hid (RowOk w a0 len0) := lawRow w0
  clear w0
  have hmax : len0 ≤ 9223372036854775807 := by have := hrow.out.1; unfold maxLen at this; omega
  by_cases hbig : 1048576 < len0
  · go_enter Try.func7, Try.ntmps7
    go_wp2
    go_ret
    exact ⟨rfl, Below.refl _ _⟩
  · obtain ⟨P, x, hok, hx0, hx1, HPr⟩ := drawn_own cap0 hrow.out (by omega)
    have HOK : Hid P.Ok := hok
    obtain ⟨f0, f1⟩ := hok.fin
    have htot := (Prof.total_bounds hok.lens).2
    obtain ⟨tr0, tr1⟩ := hok.train
    have hnz60 := hok.counts.2.2
    obtain ⟨i0, hi, hz0, hz1, hz2⟩ := info_parts Try.infoZoneT
    obtain ⟨y0, y00, y01, hy0⟩ := wByte_one hrow.out 0 (by omega) (by omega) cap0
    have HY0 : Hid (∀ w1, Below w.heap.size w w1 → Calls Try.prog 20 #[.slice a0 len0 cap0, .int .i64 0] w1 fun e w' => e = .returned (.int .i64 y0) ∧ w' = w1) := hy0
    obtain ⟨y1, y10, y11, hy1⟩ := wByte_one hrow.out 1 (by omega) (by omega) cap0
    have HY1 : Hid (∀ w1, Below w.heap.size w w1 → Calls Try.prog 20 #[.slice a0 len0 cap0, .int .i64 1] w1 fun e w' => e = .returned (.int .i64 y1) ∧ w' = w1) := hy1
    obtain ⟨y2, y20, y21, hy2⟩ := wByte_one hrow.out 2 (by omega) (by omega) cap0
    have HY2 : Hid (∀ w1, Below w.heap.size w w1 → Calls Try.prog 20 #[.slice a0 len0 cap0, .int .i64 2] w1 fun e w' => e = .returned (.int .i64 y2) ∧ w' = w1) := hy2
    clear hok hy0 hy1 hy2
    go_enter Try.func7, Try.ntmps7
    go_wp2_with fail
    refine (HPr.out _ (Below.refl _ _)).mono ?_
    rintro e w1 ⟨ap, cp, az, cz, v3, rfl, hl1, haz, ⟨a3, n3, c3, rfl⟩, hb1⟩
    have HL1 : Hid (P.Lies w1 (.agg #[.slice ap P.np cp, .slice az P.nz cz, .int .i64 P.train, .int .i64 P.fin, .int .i64 P.delay])) := hl1
    have HAZ : Hid ((az = none ∧ cz = 0 ∧ P.nz = 0) ∨ ∃ g, az = some ⟨g, 0, none⟩) := haz
    clear hl1 haz
    obtain ⟨W1, hW1⟩ : ∃ W1, w1.alloc (.cells #[.slice ap P.np cp, .slice az P.nz cz, .int .i64 P.train, .int .i64 P.fin, .int .i64 P.delay] 26) = W1 := ⟨_, rfl⟩
    have bq : Below w1.heap.size w1 W1 := by rw [← hW1]; exact (Below.refl _ _).alloc (Nat.le_refl _) _
    have HB1 : Hid (P.BoxAt W1 w1.heap.size ap az cp cz) := by show Prof.BoxAt _ _ _ _ _ _ _; subst hW1; exact ⟨by go_simp, by go_simp, by go_simp, by go_simp, by go_simp⟩
    have HL : Hid (P.Lies W1 (.agg #[.slice ap P.np cp, .slice az P.nz cz, .int .i64 P.train, .int .i64 P.fin, .int .i64 P.delay])) := HL1.out.below bq
    have B1 := hb1.trans (bq.mono hb1.size)
    have hpl := HB1.out.lt
    obtain ⟨x0, x1, x2, x3, x4⟩ := HB1.out
    clear bq hb1 HL1 HPr
    obtain ⟨W2, hW2⟩ : ∃ W2, W1.alloc (.cells #[.slice ap P.np cp, .slice az P.nz cz, .int .i64 P.train, .int .i64 P.fin, .int .i64 P.delay] 26) = W2 := ⟨_, rfl⟩
    have bq2 : Below W1.heap.size W1 W2 := by rw [← hW2]; exact (Below.refl _ _).alloc (Nat.le_refl _) _
    have s2 : W2.heap.size = W1.heap.size + 1 := by rw [← hW2]; simp
    have HQ2 : Hid (W2.rowIs W1.heap.size 26 5 (fun i => #[Value.slice ap P.np cp, Value.slice az P.nz cz, Value.int .i64 P.train, Value.int .i64 P.fin, Value.int .i64 P.delay][i]!)) := by
      show World.rowIs _ _ _ _ _
      rw [← hW2]
      exact World.rowIs_alloc W1 #[.slice ap P.np cp, .slice az P.nz cz, .int .i64 P.train, .int .i64 P.fin, .int .i64 P.delay] 26 _ (fun i hi => by simp at hi; simp [hi])
    obtain ⟨W3, hW3⟩ : ∃ W3, W2.alloc (.cells #[] 43) = W3 := ⟨_, rfl⟩
    have bq3 : Below W2.heap.size W2 W3 := by rw [← hW3]; exact (Below.refl _ _).alloc (Nat.le_refl _) _
    have s3 : W3.heap.size = W2.heap.size + 1 := by rw [← hW3]; simp
    have HO3 : Hid (W3.ownsRow W2.heap.size 43 3 (.slice (some ⟨W1.heap.size + 1, 0, none⟩) 0 0) 0 []) := by
      show World.ownsRow _ _ _ _ _ _ _
      have := World.ownsRow_lit (base := W2.heap.size) (e := 43) (size := 3) W2 #[] 0 (Nat.le_refl _) (by unfold maxLen; omega) rfl
      rw [hW3, s2] at this
      rw [s2]
      exact this
    have T3 : Below W1.heap.size W1 W3 := bq2.trans (bq3.mono bq2.size)
    have HRZ : Hid (Row3 W3 az P.nz P.F P.T P.S) := (HL.out.below T3).zones
    have HBS : Hid (W2.heap.size ≤ W3.heap.size) := by show W2.heap.size ≤ _; omega
    have yz1 : W3.cell? ⟨w1.heap.size, 1, none⟩ = some (.slice az P.nz cz) := (HB1.out.below T3).2.1
    go_wp2_with (first | (at_builtin; refine wpList_append_zones rfl _ _ 24 rfl W2.heap.size 43 i0 (.agg #[.int .i64 0, .int .i64 0, .int .i64 0]) Try.underlying24 hi hz0 hz1 hz2 rfl _ rfl HO3.out az P.nz cz P.F P.T P.S rfl HAZ.out HRZ.out hnz60 HBS.out ?_))
    intro v4 w4 ho4 hg4
    rw [← s2] at ho4
    obtain ⟨a4, c4, rfl, _, _, _⟩ := owned_shape ho4
    have hgb : W3.grownBy w4 (some (W1.heap.size + 1)) := hg4
    have T4 : Below W1.heap.size W1 w4 := T3.grown hgb T3.size (fun j e => by have := Option.some.inj e; omega)
    have HQ4 : Hid (w4.rowIs W1.heap.size 26 5 (fun i => #[Value.slice ap P.np cp, Value.slice az P.nz cz, Value.int .i64 P.train, Value.int .i64 P.fin, Value.int .i64 P.delay][i]!)) := watch_row (rowIs_below HQ2.out bq3) hgb (fun e => by have := Option.some.inj e; omega)
    have k1 := HQ4.out.cell (i := 1) (by omega)
    have kf := HQ4.out.frozen
    have HO4 : Hid (w4.ownsRow W2.heap.size 43 3 (.slice a4 P.nz c4) P.nz (triples P.F P.T P.S P.nz)) := ho4
    obtain ⟨W5, hW5⟩ : ∃ W5, w4.setCell ⟨W1.heap.size, 1, none⟩ (.slice a4 P.nz c4) = W5 := ⟨_, rfl⟩
    have T5 : Below W1.heap.size W1 W5 := by rw [← hW5]; exact T4.setCell (Nat.le_refl _) _
    have HQ5 : Hid (W5.rowIs W1.heap.size 26 5 (fun i => #[Value.slice ap P.np cp, Value.slice a4 P.nz c4, Value.int .i64 P.train, Value.int .i64 P.fin, Value.int .i64 P.delay][i]!)) := by
      show World.rowIs _ _ _ _ _
      rw [← hW5]
      refine (HQ4.out.set 1 _).congr (fun i hi => ?_)
      match i, hi with
      | 0, _ => rfl
      | 1, _ => rfl
      | 2, _ => rfl
      | 3, _ => rfl
      | 4, _ => rfl
    have HO5 : Hid (W5.ownsRow W2.heap.size 43 3 (.slice a4 P.nz c4) P.nz (triples P.F P.T P.S P.nz)) := by show World.ownsRow _ _ _ _ _ _ _; rw [← hW5]; exact ownsRow_setCell_below HO4.out (by show W1.heap.size < _; omega) _
    have hs5 : W2.heap.size < W5.heap.size := by
      have h1 := hgb.size
      have h2 : W5.heap.size = w4.heap.size := by rw [← hW5]; simp [World.setCell]
      omega
    clear ho4 hg4 HO4 hgb T4 T3 HRZ HO3 HBS yz1 bq3 bq2 hW3 hW2 HQ2 x0 x1 x2 x3 x4 hW1 s3
    obtain ⟨r, hr⟩ : ∃ r, y0.tmod 3 = r := ⟨_, rfl⟩
    have r03 : r = 0 ∨ r = 1 ∨ r = 2 := by
      rw [← hr, Int.tmod_eq_emod_of_nonneg y00]
      omega
    have TB : Below w.heap.size w W5 := B1.trans (T5.mono B1.size)
    go_upto_block 0 with (go_at_call 20; refine (HY0.out _ TB).mono ?_; rintro e w6 ⟨rfl, rfl⟩)
    go_cut [] from 9 (fun wc => ∃ (Q : Prof) (aq : Option Addr) (cq : Nat), Hid (P.Tighter Q) ∧ Hid (Q.BoxAt wc W1.heap.size ap aq cp cq) ∧ Hid (Q.Lies wc (.agg #[.slice ap Q.np cp, .slice aq Q.nz cq, .int .i64 Q.train, .int .i64 Q.fin, .int .i64 Q.delay])) ∧ Hid (Below W1.heap.size W1 wc))
    case first =>
      clear hW5 k1 kf HQ4
      obtain ⟨k0, k1, k2, k3, k4⟩ : w6.cell? ⟨W1.heap.size, 0, none⟩ = some (.slice ap P.np cp) ∧ w6.cell? ⟨W1.heap.size, 1, none⟩ = some (.slice a4 P.nz c4) ∧ w6.cell? ⟨W1.heap.size, 2, none⟩ = some (.int .i64 P.train) ∧ w6.cell? ⟨W1.heap.size, 3, none⟩ = some (.int .i64 P.fin) ∧ w6.cell? ⟨W1.heap.size, 4, none⟩ = some (.int .i64 P.delay) := ⟨HQ5.out.cell (i := 0) (by omega), HQ5.out.cell (i := 1) (by omega), HQ5.out.cell (i := 2) (by omega), HQ5.out.cell (i := 3) (by omega), HQ5.out.cell (i := 4) (by omega)⟩
      have kf := HQ5.out.frozen
      rcases r03 with rfl | rfl | rfl
      · obtain ⟨x0, x1, x2, x3, x4⟩ := HB1.out.below T5
        obtain ⟨m2, hm2⟩ : ∃ m2, y1.tmod 2 = m2 := ⟨_, rfl⟩
        have hm20 : 0 ≤ m2 ∧ m2 ≤ 1 := by rw [← hm2, Int.tmod_eq_emod_of_nonneg y10]; omega
        obtain ⟨d, hd⟩ : ∃ d, x - P.fin = d := ⟨_, rfl⟩
        have hd0 : -100000000 ≤ d := by omega
        have hd1 : d ≤ 0 := by omega
        obtain ⟨p, hp⟩ : ∃ p, d * m2 = p := ⟨_, rfl⟩
        have hp0 : -100000000 ≤ p ∧ p ≤ 0 := by
          have : m2 = 0 ∨ m2 = 1 := by omega
          rcases this with rfl | rfl
          · rw [Int.mul_zero] at hp; omega
          · rw [Int.mul_one] at hp; omega
        obtain ⟨zt, hzt⟩ : ∃ zt, P.fin + p = zt := ⟨_, rfl⟩
        obtain ⟨zs, hzs⟩ : ∃ zs, 1 + y2 = zs := ⟨_, rfl⟩
        have e1 : IntKind.i64.wrap d = d := wrapIn (by omega) (by omega)
        have e2 : IntKind.i64.wrap m2 = m2 := wrapIn (by omega) (by omega)
        have e3 : IntKind.i64.wrap p = p := wrapIn (by omega) (by omega)
        have e4 : IntKind.i64.wrap zt = zt := wrapIn (by omega) (by omega)
        have e5 : IntKind.i64.wrap zs = zs := wrapIn (by omega) (by omega)
        have hneb : w1.heap.size ≠ W1.heap.size := by omega
        have hlb : w1.heap.size < w6.heap.size := World.block_lt_of_cell? _ _ x3
        have hlq : W1.heap.size < w6.heap.size := World.block_lt_of_cell? _ _ k1
        have n1 := World.new_ne w6.drew ⟨w1.heap.size, 3, none⟩ (u := .int .i64 P.fin) (by simpa using x3)
        have kq : (w6.drew.alloc (.cells #[.int .i64 x, .int .i64 zt, .int .i64 zs] 43)).cell? ⟨W1.heap.size, 1, none⟩ = some (.slice a4 P.nz c4) := by rw [World.cell?_alloc_lt _ _ _ (by simpa using hlq)]; exact k1
        have HBQ : Hid (W2.heap.size ≤ (w6.drew.alloc (.cells #[.int .i64 x, .int .i64 zt, .int .i64 zs] 43)).heap.size) := by show W2.heap.size ≤ _; simp; omega
        have hS0 : (fun y : World => y.cell? ⟨w1.heap.size, 3, none⟩ = some (.int .i64 P.fin) ∧ y.cell? ⟨W1.heap.size, 1, none⟩ = some (.slice a4 P.nz c4)) w6.drew := ⟨x3, k1⟩
        have hS1 : (fun y : World => y.cell? ⟨w1.heap.size, 3, none⟩ = some (.int .i64 P.fin) ∧ y.cell? ⟨W1.heap.size, 1, none⟩ = some (.slice a4 P.nz c4)) (w6.drew.alloc (.cells #[.int .i64 x, .int .i64 zt, .int .i64 zs] 43)) := ⟨by rw [World.cell?_alloc_lt _ _ _ (by simpa using hlb)]; exact x3, kq⟩
        have eW : Hid (∀ args w, (callFunc 20 args).run Try.prog w = .ok (.enter 20 args) w) := enters_of Try.func20 (by kernel_rfl) rfl
        clear x0 x1 x2 x4
        go_wp2_with fail
        refine wp_region_any (by kernel_rfl) (wpAnyU.any (S := (fun y : World => y.cell? ⟨w1.heap.size, 3, none⟩ = some (.int .i64 P.fin) ∧ y.cell? ⟨W1.heap.size, 1, none⟩ = some (.slice a4 P.nz c4))) (m := 21) _ _ _ _ ?_)
        change wpAnyU _ _ _ _ _ _ 22 _ _ w6.drew
        refine wpAnyU_take (i := 0) (v := .pointer (some ⟨W1.heap.size, 1, none⟩)) rfl (by kernel_rfl) (by kernel_rfl) (by kernel_rfl) (by kernel_rfl) (fun _ _ _ h => h) (Or.inl ⟨by rfl, fun y hy => ?_⟩) hS0 ?_
        · obtain ⟨hy1, hy2⟩ := hy
          go_simp
        refine wpAnyU_take (i := 1) (v := .slice a4 P.nz c4) rfl (by kernel_rfl) (by kernel_rfl) (by kernel_rfl) (by kernel_rfl) (fun _ _ _ h => h) (Or.inl ⟨by rfl, fun y hy => ?_⟩) hS0 ?_
        · obtain ⟨hy1, hy2⟩ := hy
          go_simp
        refine wpAnyU_take (i := 2) (v := .int .i64 x) rfl (by kernel_rfl) (by kernel_rfl) (by kernel_rfl) (by kernel_rfl) (fun _ _ _ h => h) (Or.inl ⟨by rfl, fun y hy => ?_⟩) hS0 ?_
        · obtain ⟨hy1, hy2⟩ := hy
          go_simp
        refine wpAnyU_take (i := 3) (v := .pointer (some ⟨w1.heap.size, 3, none⟩)) rfl (by kernel_rfl) (by kernel_rfl) (by kernel_rfl) (by kernel_rfl) (fun _ _ _ h => h) (Or.inl ⟨by rfl, fun y hy => ?_⟩) hS0 ?_
        · obtain ⟨hy1, hy2⟩ := hy
          go_simp
        refine wpAnyU_take (i := 4) (v := .int .i64 P.fin) rfl (by kernel_rfl) (by kernel_rfl) (by kernel_rfl) (by kernel_rfl) (fun _ _ _ h => h) (Or.inl ⟨by rfl, fun y hy => ?_⟩) hS0 ?_
        · obtain ⟨hy1, hy2⟩ := hy
          go_simp
        refine wpAnyU_take (i := 5) (v := .int .i64 x) rfl (by kernel_rfl) (by kernel_rfl) (by kernel_rfl) (by kernel_rfl) (fun _ _ _ h => h) (Or.inl ⟨by rfl, fun y hy => ?_⟩) hS0 ?_
        · obtain ⟨hy1, hy2⟩ := hy
          go_simp
        refine wpAnyU_take (i := 6) (v := .pointer (some ⟨w1.heap.size, 3, none⟩)) rfl (by kernel_rfl) (by kernel_rfl) (by kernel_rfl) (by kernel_rfl) (fun _ _ _ h => h) (Or.inl ⟨by rfl, fun y hy => ?_⟩) hS0 ?_
        · obtain ⟨hy1, hy2⟩ := hy
          go_simp
        refine wpAnyU_take (i := 7) (v := .int .i64 P.fin) rfl (by kernel_rfl) (by kernel_rfl) (by kernel_rfl) (by kernel_rfl) (fun _ _ _ h => h) (Or.inl ⟨by rfl, fun y hy => ?_⟩) hS0 ?_
        · obtain ⟨hy1, hy2⟩ := hy
          go_simp
        refine wpAnyU_take (i := 8) (v := .int .i64 d) rfl (by kernel_rfl) (by kernel_rfl) (by kernel_rfl) (by kernel_rfl) (fun _ _ _ h => h) (Or.inl ⟨by rfl, fun y hy => ?_⟩) hS0 ?_
        · obtain ⟨hy1, hy2⟩ := hy
          go_simp
        refine wpAnyU_take (i := 9) (v := .slice a0 len0 cap0) rfl (by kernel_rfl) (by kernel_rfl) (by kernel_rfl) (by kernel_rfl) (fun _ _ _ h => h) (Or.inl ⟨by rfl, fun y hy => ?_⟩) hS0 ?_
        · obtain ⟨hy1, hy2⟩ := hy
          go_simp
        refine wpAnyU_take (i := 14) (v := .slice a0 len0 cap0) rfl (by kernel_rfl) (by kernel_rfl) (by kernel_rfl) (by kernel_rfl) (fun _ _ _ h => h) (Or.inl ⟨by rfl, fun y hy => ?_⟩) hS0 ?_
        · obtain ⟨hy1, hy2⟩ := hy
          go_simp
        refine wpAnyU_one (i := 10) rfl (by kernel_rfl) (fun K hK => ?_)
        refine step_call2 rfl 20 (.tmp 51) (.const (.int .i64 1)) _ rfl (.slice a0 len0 cap0) (.int .i64 1) (by simp [Act.eval, Act.put]) (by simp [Act.eval]) eW.out (HY1.out _ TB.drew) ?_
        rintro e w8 ⟨rfl, rfl⟩
        refine ⟨_, rfl, hK _ _ (Or.inr hS0) ?_⟩
        clear hK K
        refine wpAnyU_take (i := 11) (v := .int .i64 m2) rfl (by kernel_rfl) (by kernel_rfl) (by kernel_rfl) (by kernel_rfl) (fun _ _ _ h => h) (Or.inl ⟨by rfl, fun y hy => ?_⟩) hS0 ?_
        · obtain ⟨hy1, hy2⟩ := hy
          go_simp
        refine wpAnyU_take (i := 12) (v := .int .i64 p) rfl (by kernel_rfl) (by kernel_rfl) (by kernel_rfl) (by kernel_rfl) (fun _ _ _ h => h) (Or.inl ⟨by rfl, fun y hy => ?_⟩) hS0 ?_
        · obtain ⟨hy1, hy2⟩ := hy
          go_simp
        refine wpAnyU_take (i := 13) (v := .int .i64 zt) rfl (by kernel_rfl) (by kernel_rfl) (by kernel_rfl) (by kernel_rfl) (fun _ _ _ h => h) (Or.inl ⟨by rfl, fun y hy => ?_⟩) hS0 ?_
        · obtain ⟨hy1, hy2⟩ := hy
          go_simp
        refine wpAnyU_one (i := 15) rfl (by kernel_rfl) (fun K hK => ?_)
        refine step_call2 rfl 20 (.tmp 56) (.const (.int .i64 2)) _ rfl (.slice a0 len0 cap0) (.int .i64 2) (by simp [Act.eval, Act.put]) (by simp [Act.eval]) eW.out (HY2.out _ TB.drew) ?_
        rintro e w8 ⟨rfl, rfl⟩
        refine ⟨_, rfl, hK _ _ (Or.inr hS0) ?_⟩
        clear hK K
        refine wpAnyU_take (i := 16) (v := .int .i64 zs) rfl (by kernel_rfl) (by kernel_rfl) (by kernel_rfl) (by kernel_rfl) (fun _ _ _ h => h) (Or.inl ⟨by rfl, fun y hy => ?_⟩) hS0 ?_
        · obtain ⟨hy1, hy2⟩ := hy
          go_simp
        refine wpAnyU_take (i := 17) (v := .agg #[.int .i64 x, .int .i64 zt, .int .i64 zs]) rfl (by kernel_rfl) (by kernel_rfl) (by kernel_rfl) (by kernel_rfl) (fun _ _ _ h => h) (Or.inl ⟨by rfl, fun y hy => ?_⟩) hS0 ?_
        · obtain ⟨hy1, hy2⟩ := hy
          go_simp
        refine wpAnyU_one (i := 18) rfl (by kernel_rfl) (fun K hK => ?_)
        go_simp
        refine hK _ _ (Or.inr hS1) ?_
        clear hK K
        refine wpAnyU_one (i := 19) rfl (by kernel_rfl) (fun K hK => ?_)
        refine step_append_own rfl (.tmp 43) (.tmp 60) 24 rfl W2.heap.size 43 i0 (.agg #[.int .i64 0, .int .i64 0, .int .i64 0]) 3 24 Try.underlying24 hi hz0 hz1 hz2 rfl (by decide) (.slice a4 P.nz c4) P.nz _ (by simp [Act.eval]) (HO5.out.drew.alloc _) ⟨w6.heap.size, 0, none⟩ 1 1 [.int .i64 x, .int .i64 zt, .int .i64 zs] (by simp [Act.eval]) rfl (alloc_add3 w6.drew _ _ _ _) three_one (by unfold maxLen; omega) (by omega) HBQ.out ?_
        intro v9 w9 hown9 hgrow9
        have hS9 : w9.cell? ⟨w1.heap.size, 3, none⟩ = some (.int .i64 P.fin) := hgrow9.cell (by exact hS1.1) (fun e => by have h9 : W2.heap.size ≤ w1.heap.size := ownsRow_block HO5.out _ e.symm; omega)
        have HR9 : Hid (w9.rowIs W1.heap.size 26 5 (fun i => #[Value.slice ap P.np cp, Value.slice a4 P.nz c4, Value.int .i64 P.train, Value.int .i64 P.fin, Value.int .i64 P.delay][i]!)) := watch_row (HQ5.out.drew.alloc _) hgrow9 (fun e => by have := ownsRow_block HO5.out _ e.symm; omega)
        have r1 := HR9.out.cell (i := 1) (by omega)
        have rf := HR9.out.frozen
        have HX9 : Hid (w9.ownsRow W2.heap.size 43 3 v9 (P.nz + 1) (triples P.F P.T P.S P.nz ++ [.int .i64 x, .int .i64 zt, .int .i64 zs])) := hown9
        have T9 : Below W1.heap.size W1 w9 := (T5.drew.alloc T5.size _).grown hgrow9 (by have := T5.size; simp; omega) (fun j e => by have := ownsRow_block HO5.out _ e; omega)
        obtain ⟨a9, c9, rfl, _, _, _⟩ := owned_shape hown9
        refine hK _ _ (Or.inr ⟨hS9, r1⟩) ?_
        clear hK K hown9 hgrow9
        refine wpAnyU_take (i := 20) (v := .pointer (some ⟨W1.heap.size, 1, none⟩)) rfl (by kernel_rfl) (by kernel_rfl) (by kernel_rfl) (by kernel_rfl) (fun _ _ _ h => h) (Or.inl ⟨by rfl, fun y hy => ?_⟩) ⟨hS9, r1⟩ ?_
        · obtain ⟨hy1, hy2⟩ := hy
          go_simp
        refine wpAnyU_one (i := 21) rfl (by kernel_rfl) (fun K hK => ?_)
        go_simp
        refine hK _ _ (Or.inl rfl) ?_
        clear hK K
        refine wpAnyU_done (by kernel_rfl) ?_ _
        go_wp2_with fail
        go_meet
        case rel =>
          have TQ : Below W1.heap.size W1 (w9.setCell ⟨W1.heap.size, 1, none⟩ (.slice a9 (P.nz + 1) c9)) := T9.setCell (Nat.le_refl _) _
          have HQR : (w9.setCell ⟨W1.heap.size, 1, none⟩ (.slice a9 (P.nz + 1) c9)).rowIs W1.heap.size 26 5 (fun i => #[Value.slice ap P.np cp, Value.slice a9 (P.nz + 1) c9, Value.int .i64 P.train, Value.int .i64 P.fin, Value.int .i64 P.delay][i]!) := by
            refine (HR9.out.set 1 _).congr (fun i hi => ?_)
            match i, hi with
            | 0, _ => rfl
            | 1, _ => rfl
            | 2, _ => rfl
            | 3, _ => rfl
            | 4, _ => rfl
          have HOZ : (w9.setCell ⟨W1.heap.size, 1, none⟩ (.slice a9 (P.nz + 1) c9)).ownsRow W2.heap.size 43 3 (.slice a9 (P.nz + 1) c9) (P.nz + 1) (triples (P.withZone x zt zs).F (P.withZone x zt zs).T (P.withZone x zt zs).S (P.nz + 1)) := by
            rw [triples_withZone]
            exact ownsRow_setCell_below HX9.out (by show W1.heap.size < _; omega) _
          exact ⟨P.withZone x zt zs, a9, c9, P.withZone_tighter x zt zs, ⟨HQR.cell (i := 0) (by omega), HQR.cell (i := 1) (by omega), HQR.cell (i := 2) (by omega), HQR.cell (i := 3) (by omega), HQR.cell (i := 4) (by omega)⟩, lies_with (HL.out.below TQ) (P.withZone_tighter x zt zs) (owned_row3 HOZ) (by show P.nz + 1 ≤ 61; omega), TQ⟩
      · go_wp2_with fail
        go_region_with (go_at_call 20; refine (HY1.out _ TB.drew).mono ?_; rintro e w8 ⟨rfl, rfl⟩)
        all_goals go_wp2_with fail
        all_goals go_meet
        all_goals (
          case rel =>
            rw [wrapIn (x := P.train + y1) (by omega) (by omega)]
            have TQ : Below W1.heap.size W1 (w6.setCell ⟨W1.heap.size, 2, none⟩ (.int .i64 (P.train + y1))).drew := (T5.setCell (Nat.le_refl _) _).drew
            have HQR : (w6.setCell ⟨W1.heap.size, 2, none⟩ (.int .i64 (P.train + y1))).rowIs W1.heap.size 26 5 (fun i => #[Value.slice ap P.np cp, Value.slice a4 P.nz c4, Value.int .i64 (P.train + y1), Value.int .i64 P.fin, Value.int .i64 P.delay][i]!) := by
              refine (HQ5.out.set 2 _).congr (fun i hi => ?_)
              match i, hi with
              | 0, _ => rfl
              | 1, _ => rfl
              | 2, _ => rfl
              | 3, _ => rfl
              | 4, _ => rfl
            have HOZ : (w6.setCell ⟨W1.heap.size, 2, none⟩ (.int .i64 (P.train + y1))).ownsRow W2.heap.size 43 3 (.slice a4 P.nz c4) P.nz (triples P.F P.T P.S P.nz) := ownsRow_setCell_below HO5.out (by show W1.heap.size < _; omega) _
            exact ⟨P.withTrain (P.train + y1), a4, c4, P.withTrain_tighter (by omega), ⟨HQR.cell (i := 0) (by omega), HQR.cell (i := 1) (by omega), HQR.cell (i := 2) (by omega), HQR.cell (i := 3) (by omega), HQR.cell (i := 4) (by omega)⟩, lies_with (HL.out.below TQ) (P.withTrain_tighter (by omega)) (owned_row3 HOZ) (by show P.nz ≤ 61; omega), TQ⟩)
      · obtain ⟨m5, hm5⟩ : ∃ m5, y1.tmod 5 = m5 := ⟨_, rfl⟩
        have hm50 : 0 ≤ m5 ∧ m5 ≤ 4 := by rw [← hm5, Int.tmod_eq_emod_of_nonneg y10]; omega
        obtain ⟨d, hd⟩ : ∃ d, P.fin - x = d := ⟨_, rfl⟩
        have hd0 : 0 ≤ d := by omega
        have hd1 : d ≤ 100000000 := by omega
        have hp0 : 0 ≤ d * m5 := Int.mul_nonneg hd0 hm50.1
        have hp1 : d * m5 ≤ d * 4 := Int.mul_le_mul_of_nonneg_left hm50.2 hd0
        obtain ⟨p, hp⟩ : ∃ p, d * m5 = p := ⟨_, rfl⟩
        rw [hp] at hp0 hp1
        obtain ⟨t8, ht8⟩ : ∃ t8, p.tdiv 8 = t8 := ⟨_, rfl⟩
        have ht80 : 0 ≤ t8 ∧ t8 ≤ d := by rw [← ht8, Int.tdiv_eq_ediv_of_nonneg hp0]; omega
        obtain ⟨ht81, ht82⟩ := ht80
        have e1 : IntKind.i64.wrap d = d := wrapIn (by omega) (by omega)
        have e2 : IntKind.i64.wrap m5 = m5 := wrapIn (by omega) (by omega)
        have e3 : IntKind.i64.wrap p = p := wrapIn (by omega) (by omega)
        have e4 : IntKind.i64.wrap t8 = t8 := wrapIn (by omega) (by omega)
        have e5 : IntKind.i64.wrap (P.fin - t8) = P.fin - t8 := wrapIn (by omega) (by omega)
        go_wp2_with fail
        go_region_with (go_at_call 20; refine (HY1.out _ TB.drew).mono ?_; rintro e w8 ⟨rfl, rfl⟩)
        all_goals go_wp2_with fail
        all_goals go_meet
        all_goals (
          case rel =>
            have TQ : Below W1.heap.size W1 (w6.setCell ⟨W1.heap.size, 3, none⟩ (.int .i64 (P.fin - t8))).drew := (T5.setCell (Nat.le_refl _) _).drew
            have HQR : (w6.setCell ⟨W1.heap.size, 3, none⟩ (.int .i64 (P.fin - t8))).rowIs W1.heap.size 26 5 (fun i => #[Value.slice ap P.np cp, Value.slice a4 P.nz c4, Value.int .i64 P.train, Value.int .i64 (P.fin - t8), Value.int .i64 P.delay][i]!) := by
              refine (HQ5.out.set 3 _).congr (fun i hi => ?_)
              match i, hi with
              | 0, _ => rfl
              | 1, _ => rfl
              | 2, _ => rfl
              | 3, _ => rfl
              | 4, _ => rfl
            have HOZ : (w6.setCell ⟨W1.heap.size, 3, none⟩ (.int .i64 (P.fin - t8))).ownsRow W2.heap.size 43 3 (.slice a4 P.nz c4) P.nz (triples P.F P.T P.S P.nz) := ownsRow_setCell_below HO5.out (by show W1.heap.size < _; omega) _
            exact ⟨P.withEnd (P.fin - t8), a4, c4, P.withEnd_tighter (by omega), ⟨HQR.cell (i := 0) (by omega), HQR.cell (i := 1) (by omega), HQR.cell (i := 2) (by omega), HQR.cell (i := 3) (by omega), HQR.cell (i := 4) (by omega)⟩, lies_with (HL.out.below TQ) (P.withEnd_tighter (by omega)) (owned_row3 HOZ) (by show P.nz ≤ 61; omega), TQ⟩)
    case rest =>
      obtain ⟨Q, aq, cq, HT, HQB, HQL, HTQ⟩ := hcut
      obtain ⟨ub0, ub1, ub2, ub3, ub4⟩ := HQB.out
      go_wp2_with fail
      refine (implOk_any Q _ _ HQL.out).mono ?_
      rintro e w7 ⟨rfl, hb7⟩
      have t7 := HTQ.out.trans (hb7.mono HTQ.out.size)
      have HQB7 : Hid (Q.BoxAt w7 W1.heap.size ap aq cp cq) := HQB.out.below hb7
      have HQL7 : Hid (Q.Lies w7 (.agg #[.slice ap Q.np cp, .slice aq Q.nz cq, .int .i64 Q.train, .int .i64 Q.fin, .int .i64 Q.delay])) := HQL.out.below hb7
      clear ub0 ub1 ub2 ub3 ub4 hb7
      obtain ⟨ub0, ub1, ub2, ub3, ub4⟩ := HQB7.out
      by_cases hc : Q.code = 0
      · have HQOK : Hid Q.Ok := Prof.code_zero.1 hc
        rw [hc]
        clear hc
        go_wp2_with fail
        go_loopw [7] (fun i wr => ∃ k : Nat, k ≤ 20 ∧ i = .int .i64 k ∧ Hid (Below w7.heap.size w7 wr)) (fun i _ => 20 - (intOf i).toNat)
        case atStart => exact ⟨0, Nat.zero_le _, rfl, Below.refl _ _⟩
        case round =>
          clear ub0 ub1 ub2 ub3 ub4
          obtain ⟨k, hk, rfl, HQr⟩ := hrel
          have t8 := t7.trans (HQr.out.mono t7.size)
          have TBr : Below w.heap.size w wr := B1.trans (t8.mono B1.size)
          by_cases hlt : k < 20
          · have i1 : (k : Int) < 20 := by omega
            go_wp2_with fail
            refine (wByte_any _ _ _ _ _ (hrow.out.below TBr) (by omega) (by omega)).mono ?_
            rintro e w8 ⟨ya, rfl, ya0, ya1, rfl⟩
            go_wp2_with fail
            refine (wByte_any _ _ _ _ _ (hrow.out.below TBr) (by omega) (by omega)).mono ?_
            rintro e w9 ⟨yb, rfl, yb0, yb1, rfl⟩
            obtain ⟨m3, hm3⟩ : ∃ m3, yb.tmod 3 = m3 := ⟨_, rfl⟩
            have hm30 : 0 ≤ m3 ∧ m3 ≤ 2 := by rw [← hm3, Int.tmod_eq_emod_of_nonneg yb0]; omega
            obtain ⟨hm31, hm32⟩ := hm30
            have hv0 : 0 ≤ ya * (1 + m3) := Int.mul_nonneg ya0 (by omega)
            have hv1 : ya * (1 + m3) ≤ 255 * 3 := Int.mul_le_mul ya1 (by omega) (by omega) (by omega)
            obtain ⟨vv, hvv⟩ : ∃ vv, ya * (1 + m3) = vv := ⟨_, rfl⟩
            rw [hvv] at hv0 hv1
            have HSS : Hid (Q.safeAns x vv = true → P.safeAns x vv = true) := fun h => HT.out.safeAns HOK.out h
            obtain ⟨sQ, hsQ⟩ : ∃ sQ, Q.safeAns x vv = sQ := ⟨_, rfl⟩
            obtain ⟨sP, hsP⟩ : ∃ sP, P.safeAns x vv = sP := ⟨_, rfl⟩
            rw [hsQ, hsP] at HSS
            have HSQ : Hid (Q.safeAns x vv = sQ) := hsQ
            have HSP : Hid (P.safeAns x vv = sP) := hsP
            clear hsQ hsP
            go_wp2_with fail
            have cS : ∀ d os v b, (v = Value.agg #[.slice ap Q.np cp, .slice aq Q.nz cq, .int .i64 Q.train, .int .i64 Q.fin, .int .i64 Q.delay] ∧ b = sQ) ∨ (v = Value.agg #[.slice ap P.np cp, .slice az P.nz cz, .int .i64 P.train, .int .i64 P.fin, .int .i64 P.delay] ∧ b = sP) → Calls Try.prog 28 #[v, .int .i64 x, .int .i64 vv] (Sort.grow (redrawn w9 d) os) fun e w'' => e = .returned (.bool b) ∧ ∃ p : Regrown, w'' = Sort.grow (redrawn w9 p.d) p.os := fun d os v b h => by
              rcases h with ⟨rfl, rfl⟩ | ⟨rfl, rfl⟩
              · have := Calls.regrown_of (implSafe_any Q _ x vv _ ((HQL7.out.below HQr.out).below (below_regrown w9 d os)))
                rw [HSQ.out] at this
                exact this
              · have := Calls.regrown_of (implSafe_any P _ x vv _ ((HL.out.below t8).below (below_regrown w9 d os)))
                rw [HSP.out] at this
                exact this
            have cS3 : ∀ d os, Calls Try.prog 29 #[.agg #[.slice ap Q.np cp, .slice aq Q.nz cq, .int .i64 Q.train, .int .i64 Q.fin, .int .i64 Q.delay], .int .i64 x, .int .i64 vv] (Sort.grow (redrawn w9 d) os) fun e w'' => e = .returned (.bool sQ) ∧ ∃ p : Regrown, w'' = Sort.grow (redrawn w9 p.d) p.os := fun d os => by
              have := Calls.regrown_of (specSafe_any Q _ x vv _ ((HQL7.out.below HQr.out).below (below_regrown w9 d os)))
              rw [HSQ.out] at this
              exact this
            have hqb := HQB7.out.below HQr.out
            have hpb := HB1.out.below t8
            have b0 := cell_regrown hqb.1
            have b1 := cell_regrown hqb.2.1
            have b2 := cell_regrown hqb.2.2.1
            have b3 := cell_regrown hqb.2.2.2.1
            have b4 := cell_regrown hqb.2.2.2.2
            have g0 := cell_regrown hpb.1
            have g1 := cell_regrown hpb.2.1
            have g2 := cell_regrown hpb.2.2.1
            have g3 := cell_regrown hpb.2.2.2.1
            have g4 := cell_regrown hpb.2.2.2.2
            clear hqb hpb hvv hm3
            cases sQ with
            | true =>
              have hsp : sP = true := HSS.out rfl
              subst hsp
              refine wp_region_quiet_below (by kernel_rfl) (by kernel_rfl) ?_
              repeat (go_big_quiet_step (first | (go_at_call 29; exact cS3 _ _) | (go_at_call 28; exact cS _ _ _ _ (by first | exact Or.inl ⟨rfl, rfl⟩ | exact Or.inr ⟨rfl, rfl⟩))))
              refine wpQuiet_nil ?_
              intro _ hw'
              obtain ⟨⟨dq, osq⟩, hw''⟩ := hw'
              subst hw''
              have hq5 := below_regrown w9 dq osq
              clear b0 b1 b2 b3 b4 g0 g1 g2 g3 g4 cS cS3
              generalize Sort.grow (redrawn w9 dq) osq = W9 at *
              go_wp2
              go_roundw
              case rel => exact ⟨k + 1, by omega, by go_num, HQr.out.trans (hq5.mono HQr.out.size)⟩
              case measure => simp [intOf]; omega
            | false =>
              refine wp_region_quiet_below (by kernel_rfl) (by kernel_rfl) ?_
              repeat (go_big_quiet_step (first | (go_at_call 29; exact cS3 _ _) | (go_at_call 28; exact cS _ _ _ _ (by first | exact Or.inl ⟨rfl, rfl⟩ | exact Or.inr ⟨rfl, rfl⟩))))
              refine wpQuiet_nil ?_
              intro _ hw'
              obtain ⟨⟨dq, osq⟩, hw''⟩ := hw'
              subst hw''
              have hq5 := below_regrown w9 dq osq
              clear b0 b1 b2 b3 b4 g0 g1 g2 g3 g4 cS cS3
              generalize Sort.grow (redrawn w9 dq) osq = W9 at *
              go_wp2
              go_roundw
              case rel => exact ⟨k + 1, by omega, by go_num, HQr.out.trans (hq5.mono HQr.out.size)⟩
              case measure => simp [intOf]; omega
          · have ek : k = 20 := by omega
            subst ek
            obtain ⟨mQ, hmQ⟩ : ∃ mQ, Q.mostAns x = mQ := ⟨_, rfl⟩
            obtain ⟨mP, hmP⟩ : ∃ mP, P.mostAns x = mP := ⟨_, rfl⟩
            have hle : mQ ≤ mP := by rw [← hmQ, ← hmP]; exact HT.out.mostAns HOK.out x
            have HMQ : Hid (Q.mostAns x = mQ) := hmQ
            have HMP : Hid (P.mostAns x = mP) := hmP
            clear hmQ hmP
            go_wp2_with fail
            have cM : ∀ d os v m, (v = Value.agg #[.slice ap Q.np cp, .slice aq Q.nz cq, .int .i64 Q.train, .int .i64 Q.fin, .int .i64 Q.delay] ∧ m = mQ) ∨ (v = Value.agg #[.slice ap P.np cp, .slice az P.nz cz, .int .i64 P.train, .int .i64 P.fin, .int .i64 P.delay] ∧ m = mP) → Calls Try.prog 27 #[v, .int .i64 x] (Sort.grow (redrawn wr d) os) fun e w'' => e = .returned (.int .i64 m) ∧ ∃ p : Regrown, w'' = Sort.grow (redrawn wr p.d) p.os := fun d os v m h => by
              rcases h with ⟨rfl, rfl⟩ | ⟨rfl, rfl⟩
              · have := Calls.regrown_of (implMostNow_any Q _ x _ ((HQL7.out.below HQr.out).below (below_regrown wr d os)))
                rw [HMQ.out] at this
                exact this
              · have := Calls.regrown_of (implMostNow_any P _ x _ ((HL.out.below t8).below (below_regrown wr d os)))
                rw [HMP.out] at this
                exact this
            have hqb := HQB7.out.below HQr.out
            have hpb := HB1.out.below t8
            have b0 := cell_regrown hqb.1
            have b1 := cell_regrown hqb.2.1
            have b2 := cell_regrown hqb.2.2.1
            have b3 := cell_regrown hqb.2.2.2.1
            have b4 := cell_regrown hqb.2.2.2.2
            have g0 := cell_regrown hpb.1
            have g1 := cell_regrown hpb.2.1
            have g2 := cell_regrown hpb.2.2.1
            have g3 := cell_regrown hpb.2.2.2.1
            have g4 := cell_regrown hpb.2.2.2.2
            clear hqb hpb
            refine wp_region_quiet_below (by kernel_rfl) (by kernel_rfl) ?_
            repeat (go_big_quiet_step (first | (go_at_call 27; exact cM _ _ _ _ (by first | exact Or.inl ⟨rfl, rfl⟩ | exact Or.inr ⟨rfl, rfl⟩))))
            refine wpQuiet_nil ?_
            intro _ hw'
            obtain ⟨⟨dq, osq⟩, hw''⟩ := hw'
            subst hw''
            have hq5 := below_regrown wr dq osq
            clear b0 b1 b2 b3 b4 g0 g1 g2 g3 g4 cM
            generalize Sort.grow (redrawn wr dq) osq = W9 at *
            have t9 := t8.trans (hq5.mono t8.size)
            go_wp2
            go_ret
            exact ⟨by simp, B1.trans (t9.mono B1.size)⟩
      · have hcb := Q.code_bounds
        obtain ⟨c, hcc⟩ : ∃ c, Q.code = c := ⟨_, rfl⟩
        rw [hcc] at hc hcb ⊢
        have HCC : Hid (Q.code = c) := hcc
        clear hcc
        have hc' : (c == 0) = false := by simpa using hc
        go_wp2_with fail
        refine (specOk_any Q _ _ HQL7.out).mono ?_
        rintro e w8 ⟨rfl, hb8⟩
        rw [HCC.out]
        have t8 := t7.trans (hb8.mono t7.size)
        go_wp2
        go_ret
        exact ⟨by simp, B1.trans (t8.mono B1.size)⟩

set_option maxRecDepth 100000 in
theorem lifted (os : Os) (started : os.Started) (H : Type) (enc : TypeId × Value → H) :
    ReturnsInHanded {} Try.checked os 7 .any (Rows.fnTightSpec.pre6 enc Try.prog Try.f7 Rows.fnTightRow.domain false) (Rows.fnTightSpec.post enc Try.prog Try.f7 false true false false) := by
  refine returnsInHanded_of_change (C := Try.checked) own started (by kernel_rfl) Try.func7
    (ChangeSpec.witness6 (enc := enc) (C := Try.checked) false ⟨#[], #[.slice none 0 0], []⟩ 8 (by kernel_rfl) (by kernel_rfl) (by kernel_rfl) (by kernel_rfl)) ?_
  intro W base args ds gs before hval0 hW hcnd _
  have hval : ∀ (j : Nat) t v, Try.f7.params[j]? = some t → args[j]? = some v → Value.okWide Try.prog W .any base t v := hval0
  have hW' := hW
  obtain ⟨p, q, hA0, hV, rfl, hfz, hnd⟩ := hW
  have hA : DataW.TrodAll enc Try.prog W 0 (fun _ => true) true Try.f7.params.toList args.toList ds p := hA0
  rw [Try.params7] at hA hval
  obtain ⟨v0, vs0, d0, ds0, p0, q0, hargs, rfl, rfl, h0, r0⟩ := trodAll_cons hA
  obtain ⟨rfl, rfl, rfl⟩ := trodAll_nil r0
  obtain rfl : args = #[v0] := by cases args; simp_all
  obtain ⟨rfl, rfl⟩ := trodVars_none hV
  obtain ⟨a0, len0, cap0, rfl⟩ := okWide_slice Try.underlying22 (hval 0 22 v0 rfl rfl)
  have k0 := h0
  have lt0 : ∀ x ∈ p0, x.block < W.heap.size := by obtain ⟨m, hm⟩ := k0; exact DataW.trod_lt m _ _ _ hm
  obtain ⟨z0, w0⟩ : ∃ zs, IsRow .u8 W a0 len0 cap0 zs := by
    obtain ⟨fuel, hf⟩ := h0
    rcases open_ints Try.underlying22 Try.underlying5 (by kernel_rfl) hf with ⟨hcs, _⟩ | ⟨x, l, c, zs, hcs, _, hl, hm, hz, _, hcell, hwz⟩
    · simp [Value.cells] at hcs
      obtain ⟨rfl, rfl, rfl⟩ := hcs
      exact ⟨[], .inl ⟨rfl, rfl, rfl, rfl⟩⟩
    · simp [Value.cells] at hcs
      obtain ⟨rfl, rfl, rfl⟩ := hcs
      exact ⟨zs, .inr ⟨_, rfl, hl, hm, by simpa using hz, hcell, hwz⟩⟩
  clear hA0 hval0
  refine (walk a0 len0 cap0 z0 W w0).mono fun e W' ⟨he, bel⟩ => ?_
  subst he
  exact ⟨_, rfl, _, _, _, [], _, [], hW', trodAll_mk1 (shut_bool Try.underlying4 _), (trodAll_cons_mk (Below.trod laidOut (by kernel_rfl) (of_decide_eq_true (by kernel_rfl)) k0 bel lt0) trodAll_mk0), rfl, bel.frame _, fun h => by cases h⟩

theorem over : Rows.fnTightRow.holds Try.pinned (OpenSpec.ofChange Rows.fnTightSpec) :=
  OpenClaim.holds_of_wide 7 Try.f7 rfl rfl rfl rfl rfl rfl rfl ⟨rfl, rfl, rfl, rfl, rfl⟩ rfl rfl rfl rfl rfl (by kernel_rfl) Try.func7 (by kernel_rfl)
    (of_decide_eq_true (by kernel_rfl)) (by unfold Func.isWrapper; first | (rw [if_pos (by decide +kernel)]; kernel_rfl) | (rw [if_neg (by decide +kernel)]; exact ⟨rfl, rfl⟩))
    (fun os started H enc _ => lifted os started H enc)

theorem proved : Rows.FnTightSaid := over
end Go.Proofs.Yteodefmpkljedaa.fnTight

namespace Go.Proofs.Yteodefmpkljedaa
theorem fnTight_holds : Rows.FnTightSaid := fnTight.proved
#print axioms fnTight_holds
end Go.Proofs.Yteodefmpkljedaa
