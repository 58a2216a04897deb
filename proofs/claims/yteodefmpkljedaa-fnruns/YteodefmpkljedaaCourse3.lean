/-
  The program's course over a profile: its bounds laid and sorted.
-/
import Derived.Test.YteodefmpkljedaaCourse2
import Derived.Test.YteodefmpkljedaaSortB
import Derived.Test.YteodefmpkljedaaOwnRow
namespace Go.Proofs.Yteodefmpkljedaa
open Go.RowKit
attribute [local go_sem ↓] Go.wp_at_zero Go.wp_at_succ
set_option linter.unusedVariables false

theorem Try.infoBound : (Try.prog.info? 122).map (fun i => (i.zero, i.size, i.bytes)) = some (some (.agg #[.int .i64 0, .int .i64 0, .int .i64 0]), 3, 24) := by kernel_rfl
def Prof.bF (P : Prof) (j : Nat) : Int := (P.bound j).1
def Prof.bU (P : Prof) (j : Nat) : Int := (P.bound j).2.1
def Prof.bM (P : Prof) (j : Nat) : Int := (P.bound j).2.2
def courseZ (i : Nat) : Value := #[Value.slice none 0 0, Value.slice none 0 0, Value.int .i64 0, Value.int .i64 0, Value.int .i64 0, Value.slice none 0 0, Value.slice none 0 0][i]!

theorem alloc_add3c (w : World) (x y z : Value) (t : TypeId) (s : Nat) (h : w.heap.size = s) : ∀ j u, [x, y, z][j]? = some u → (w.alloc (.cells #[x, y, z] t)).cell? ((⟨s, 0, none⟩ : Addr).add j) = some u := by
  subst h
  intro j u hj
  match j, hj with
  | 0, hj => simp at hj; subst hj; simp [Addr.add]
  | 1, hj => simp at hj; subst hj; simp [Addr.add]
  | 2, hj => simp at hj; subst hj; simp [Addr.add]
theorem three_one {a b c : Int} : ∀ u ∈ [Value.int .i64 a, Value.int .i64 b, Value.int .i64 c], u.oneCell' = true := by
  intro u hu
  simp at hu
  rcases hu with rfl | rfl | rfl <;> rfl
theorem owned_frozen {w : World} {base e size n g cap : Nat} {xs : List Value} (h : w.ownsRow base e size (.slice (some ⟨g, 0, none⟩) n cap) n xs) : ∀ j, w.frozen? ⟨g, j, none⟩ = false := by
  intro j
  rcases h.2 with ⟨e, _⟩ | ⟨g', cap', cur, hv, hb, hh, _⟩
  · cases e
  · cases hv
    simp [World.frozen?, hh]
theorem BRow.setOther {w : World} {h n : Nat} {b : Nat → Int × Int × Int} (k : BRow w h n b) {a : Addr} (ha : h ≠ a.block) (v : Value) : BRow (w.setCell a v) h n b := by
  have hb : (w.setCell a v).heap[h]? = w.heap[h]? := Below.heap_setCell _ _ _ _ ha
  refine ⟨by have := k.1; simpa [World.setCell] using this, fun i hi => ?_⟩
  obtain ⟨q0, q1, q2⟩ := k.2 i hi
  exact ⟨(World.cell?_of_block (a := ⟨h, i * 3, none⟩) hb).trans q0, (World.cell?_of_block (a := ⟨h, i * 3 + 1, none⟩) hb).trans q1, (World.cell?_of_block (a := ⟨h, i * 3 + 2, none⟩) hb).trans q2⟩
/-- A variable that holds a way, in a course's making. -/
def Prof.CWBox (P : Prof) (w : World) (n : Nat) (ap az : Option Addr) (cp cz g : Nat) : Prop :=
  w.cell? ⟨n, 0, none⟩ = some (.slice ap P.np cp) ∧ w.cell? ⟨n, 1, none⟩ = some (.slice az P.nz cz) ∧ w.cell? ⟨n, 2, none⟩ = some (.int .i64 P.train) ∧ w.cell? ⟨n, 3, none⟩ = some (.int .i64 P.fin) ∧ w.cell? ⟨n, 4, none⟩ = some (.int .i64 P.delay) ∧ w.cell? ⟨n, 5, none⟩ = some (.slice (some ⟨g, 0, none⟩) P.np P.np)
theorem Prof.CWBox.below' {P : Prof} {w w1 : World} {n m : Nat} {ap az : Option Addr} {cp cz g : Nat} (h : P.CWBox w n ap az cp cz g) (hn : n < m) (hb : Below m w w1) : P.CWBox w1 n ap az cp cz g := by
  obtain ⟨h0, h1, h2, h3, h4, h5⟩ := h
  refine ⟨?_, ?_, ?_, ?_, ?_, ?_⟩ <;> (rw [hb.cell hn]; assumption)

set_option maxRecDepth 20000 in
set_option maxHeartbeats 40000000 in
theorem courseWith_yes (P : Prof) (v : Value) (x : Int) (w : World) (hl : P.Lies w v) (h : P.With x) :
    Calls Try.prog 46 #[v, .int .i64 x] w fun e w' => ∃ v', e = .returned (.tuple #[v', .bool true]) ∧ P.CourseIs w' v' ∧ Below w.heap.size w w' := by
  have HA : Hid (P.With x) := h
  obtain ⟨i0, hi, hz0, hz1, hz2⟩ := info_parts Try.infoBound
  obtain ⟨ap, cp, az, cz, rfl, hn, hn', hr2, hr3⟩ := hl
  have HR2 : Hid (Row2 w ap P.np P.L P.B) := hr2
  have HR3 : Hid (Row3 w az P.nz P.F P.T P.S) := hr3
  clear hr2 hr3 h
  go_enter Try.func46, Try.ntmps46
  go_wp2_with fail
  generalize hW : (w.alloc _).alloc _ = W
  have bW : Below w.heap.size w W := by rw [← hW]; exact ((Below.refl _ _).alloc (Nat.le_refl _) _).alloc (by simp) _
  have sW : W.heap.size = w.heap.size + 1 + 1 := by rw [← hW]; simp
  have hbox : P.BoxAt W w.heap.size ap az cp cz := by subst hW; exact ⟨by go_simp, by go_simp, by go_simp, by go_simp, by go_simp⟩
  have hz : W.rowIs (w.heap.size + 1) 71 7 courseZ := by
    have := World.rowIs_alloc (w.alloc (.cells #[.slice ap P.np cp, .slice az P.nz cz, .int .i64 P.train, .int .i64 P.fin, .int .i64 P.delay] 26)) #[Value.slice none 0 0, Value.slice none 0 0, Value.int .i64 0, Value.int .i64 0, Value.int .i64 0, Value.slice none 0 0, Value.slice none 0 0] 71 courseZ (fun i hi => by simp at hi; simp [courseZ, hi])
    rw [← hW]
    exact (by simpa using this)
  clear hW
  refine (wayWith_at P ap az cp cz x _ hn hn' (HR2.out.below bW) (HR3.out.below bW) HA.out).mono ?_
  rintro e w2 ⟨g, rfl, hgW, hrow, hb2⟩
  have b2 := bW.trans (hb2.mono bW.size)
  have HROW : Hid (w2.rowIs g 3 P.np (endOf P.L)) := hrow
  have HX2 : Hid (P.BoxAt w2 w.heap.size ap az cp cz) := hbox.below hb2
  have HZ2 : Hid (w2.rowIs (w.heap.size + 1) 71 7 courseZ) := rowIs_below hz hb2
  have s2 := hb2.size
  have hok := HA.out.1
  have HOK : Hid P.Ok := hok
  obtain ⟨f0, f1⟩ := hok.fit.fin
  have hnz := hok.counts.2.2
  clear hb2 hrow bW hbox hz hok
  obtain ⟨W3, hW3⟩ : ∃ W3, w2.alloc (.cells #[.slice ap P.np cp, .slice az P.nz cz, .int .i64 P.train, .int .i64 P.fin, .int .i64 P.delay, .slice (some ⟨g, 0, none⟩) P.np P.np] 68) = W3 := ⟨_, rfl⟩
  have bq : Below w2.heap.size w2 W3 := by rw [← hW3]; exact (Below.refl _ _).alloc (Nat.le_refl _) _
  have b3 := b2.trans (bq.mono b2.size)
  have s3 : W3.heap.size = w2.heap.size + 1 := by rw [← hW3]; simp
  have HY3 : Hid (P.CWBox W3 w2.heap.size ap az cp cz g) := by show Prof.CWBox _ _ _ _ _ _ _ _; subst hW3; refine ⟨?_, ?_, ?_, ?_, ?_, ?_⟩ <;> go_simp
  have HX3 : Hid (P.BoxAt W3 w.heap.size ap az cp cz) := HX2.out.below bq
  have HZ3 : Hid (W3.rowIs (w.heap.size + 1) 71 7 courseZ) := rowIs_below HZ2.out bq
  have HW3 : Hid (W3.rowIs g 3 P.np (endOf P.L)) := rowIs_below HROW.out bq
  clear HX2 HZ2 HROW bq b2
  obtain ⟨W4, hW4⟩ : ∃ W4, W3.alloc (.cells #[.int .i64 (P.fin + 1), .int .i64 100000000, .int .i64 (-1)] 122) = W4 := ⟨_, rfl⟩
  have bq4 : Below W3.heap.size W3 W4 := by rw [← hW4]; exact (Below.refl _ _).alloc (Nat.le_refl _) _
  have HO4 : Hid (W4.ownsRow W3.heap.size 122 3 (.slice (some ⟨w2.heap.size + 1, 0, none⟩) 1 1) 1 (triples P.bF P.bU P.bM 1)) := by
    show World.ownsRow _ _ _ _ _ _ _
    have := World.ownsRow_lit (base := W3.heap.size) (e := 122) (size := 3) W3 #[.int .i64 (P.fin + 1), .int .i64 100000000, .int .i64 (-1)] 1 (Nat.le_refl _) (by unfold maxLen; omega) rfl
    rw [hW4, s3] at this
    rw [s3]
    exact this
  have x3 := HX3.out.2.2.2.1
  have y1 : W4.cell? ⟨w.heap.size, 1, none⟩ = some (.slice az P.nz cz) := (HX3.out.below bq4).2.1
  go_wp2
  go_loopw [8, 28] (fun sv i wr => ∃ k : Nat, k ≤ P.nz ∧ i = .int .i64 k ∧ Hid (wr.ownsRow W3.heap.size 122 3 sv (k + 1) (triples P.bF P.bU P.bM (k + 1))) ∧ Hid (Below W3.heap.size W3 wr)) (fun _ i _ => P.nz - (intOf i).toNat)
  case atStart => exact ⟨0, Nat.zero_le _, rfl, HO4, bq4⟩
  case round =>
    clear HO4 bq4 y1 x3 hW3 hW4 W4
    obtain ⟨k, hk, rfl, HO, HQ⟩ := hrel
    have bw : Below w.heap.size w wr := b3.trans (HQ.out.mono b3.size)
    have hsz := HQ.out.size
    have s3' := b3.size
    by_cases hlt : k < P.nz
    · rcases HR3.out with h0 | ⟨b, off, rfl, hb, hc⟩
      · omega
      have hkI : (k : Int) < (P.nz : Int) := by omega
      have z0 : wr.cell? ⟨b, off + k * 3, none⟩ = some (.int .i64 (P.F k)) := (bw.cell (p := ⟨b, off + k * 3, none⟩) hb).trans (hc k hlt).1
      have z1 : wr.cell? ⟨b, off + k * 3 + 1, none⟩ = some (.int .i64 (P.T k)) := (bw.cell (p := ⟨b, off + k * 3 + 1, none⟩) hb).trans (hc k hlt).2.1
      have z2 : wr.cell? ⟨b, off + k * 3 + 2, none⟩ = some (.int .i64 (P.S k)) := (bw.cell (p := ⟨b, off + k * 3 + 2, none⟩) hb).trans (hc k hlt).2.2
      have hzk := HOK.out.fit.zones k hlt
      obtain ⟨⟨_, _⟩, ⟨e1, e2⟩, _⟩ := hzk
      clear hc
      obtain ⟨W5, hW5⟩ : ∃ W5, wr.alloc (.cells #[.int .i64 (P.F k), .int .i64 (P.T k), .int .i64 (P.S k)] 43) = W5 := ⟨_, rfl⟩
      have b5 : Below wr.heap.size wr W5 := by rw [← hW5]; exact (Below.refl _ _).alloc (Nat.le_refl _) _
      have s5 : W5.heap.size = wr.heap.size + 1 := by rw [← hW5]; simp
      have t0 : W5.cell? ⟨wr.heap.size, 0, none⟩ = some (.int .i64 (P.F k)) := by subst hW5; go_simp
      have t1 : W5.cell? ⟨wr.heap.size, 1, none⟩ = some (.int .i64 (P.T k)) := by subst hW5; go_simp
      have t2 : W5.cell? ⟨wr.heap.size, 2, none⟩ = some (.int .i64 (P.S k)) := by subst hW5; go_simp
      have x2 : W5.cell? ⟨w.heap.size, 2, none⟩ = some (.int .i64 P.train) := ((HX3.out.below HQ.out).below b5).2.2.1
      have HO5 : Hid (W5.ownsRow W3.heap.size 122 3 _ (k + 1) (triples P.bF P.bU P.bM (k + 1))) := ownsRow_below HO.out b5
      have hbase : W3.heap.size ≤ (W5.alloc (.cells #[.int .i64 (P.F k), .int .i64 (P.T k + P.train), .int .i64 (P.S k)] 122)).heap.size := by have := b5.size; simp; omega
      have HN : Hid (W3.heap.size ≤ (W5.alloc (.cells #[.int .i64 (P.F k), .int .i64 (P.T k + P.train), .int .i64 (P.S k)] 122)).heap.size) := hbase
      clear hbase
      go_wp2_with (first | (at_builtin; refine wpList_append_own _ rfl _ _ 69 rfl W3.heap.size 122 i0 (.agg #[.int .i64 0, .int .i64 0, .int .i64 0]) 3 24 Try.underlying69 hi hz0 hz1 hz2 rfl (by decide) _ _ _ rfl (HO5.out.alloc _) ⟨wr.heap.size + 1, 0, none⟩ 1 1 [.int .i64 (P.F k), .int .i64 (P.T k + P.train), .int .i64 (P.S k)] rfl rfl (alloc_add3c W5 _ _ _ _ _ s5) three_one (by unfold maxLen; omega) (by omega) HN.out ?_))
      intro v6 w6 hown6 hgrow6 _
      have bq6 : Below W3.heap.size W3 w6 := ((HQ.out.trans (b5.mono HQ.out.size)).alloc (by have := b5.size; omega) _).grown hgrow6 HN.out (ownsRow_block HO5.out)
      have HO6 : Hid (w6.ownsRow W3.heap.size 122 3 v6 (k + 1 + 1) (triples P.bF P.bU P.bM (k + 1 + 1))) := by
        show World.ownsRow _ _ _ _ _ _ _
        have e0 : P.bound (k + 1) = (P.F k, P.T k + P.train, P.S k) := by unfold Prof.bound; rw [if_neg (by omega)]; simp
        have e1 : P.bF (k + 1) = P.F k := by unfold Prof.bF; rw [e0]
        have e2 : P.bU (k + 1) = P.T k + P.train := by unfold Prof.bU; rw [e0]
        have e3 : P.bM (k + 1) = P.S k := by unfold Prof.bM; rw [e0]
        have e4 : triples P.bF P.bU P.bM (k + 1 + 1) = triples P.bF P.bU P.bM (k + 1) ++ [.int .i64 (P.F k), .int .i64 (P.T k + P.train), .int .i64 (P.S k)] := by
          conv => lhs; unfold triples
          rw [e1, e2, e3]
        rw [e4, s3]
        exact hown6
      clear hown6 hgrow6 hW5
      go_wp2
      go_roundw
      case rel => exact ⟨k + 1, by omega, by go_num, HO6.out, bq6⟩
      case measure => simp [intOf]; omega
    · have ek : k = P.nz := by omega
      subst ek
      obtain ⟨gb, cb, esv, hgb, hgl, hcl⟩ := owned_cell HO.out (by omega)
      subst esv
      have hfz : ∀ j, wr.frozen? ⟨gb, j, none⟩ = false := owned_frozen HO.out
      have HFZ : Hid (∀ j, wr.frozen? ⟨gb, j, none⟩ = false) := hfz
      have HCL : Hid (∀ i, i ≤ P.nz → (wr.cell? ⟨gb, i * 3, none⟩ = some (.int .i64 (P.bound i).1) ∧ wr.cell? ⟨gb, i * 3 + 1, none⟩ = some (.int .i64 (P.bound i).2.1) ∧ wr.cell? ⟨gb, i * 3 + 2, none⟩ = some (.int .i64 (P.bound i).2.2))) := fun i hi => by
        obtain ⟨q0, q1, q2⟩ := triples_get P.bF P.bU P.bM (P.nz + 1) i (by omega)
        exact ⟨hcl _ _ q0, hcl _ _ q1, hcl _ _ q2⟩
      clear hcl hfz HO
      have hmf : ∀ (fn : Fn) (first cap : Array Value) (w : World), (Instr.makeFunc fn first cap).run Try.prog w = .ok (.func fn first cap) w := fun _ _ _ _ => rfl
      go_wp2_with fail
      refine (sortB_any P gb cb wr hgl hnz HCL.out HFZ.out).mono ?_
      rintro e w7 ⟨rfl, b, hBnd, hBR, hbl⟩
      have bq7 : Below W3.heap.size W3 w7 := HQ.out.trans (hbl _ hgb)
      have HBN : Hid (P.Bounds (P.nz + 1) b) := hBnd
      have HBR : Hid (BRow w7 gb (P.nz + 1) b) := hBR
      have b7 : Below w.heap.size w w7 := b3.trans (bq7.mono b3.size)
      have HR7 : Hid (w7.rowIs g 3 P.np (endOf P.L)) := rowIs_below HW3.out bq7
      obtain ⟨y0, y1, y2, y3, y4, y5⟩ := HY3.out.below' (m := W3.heap.size) (by omega) bq7
      have HZ7 : Hid (w7.rowIs (w.heap.size + 1) 71 7 courseZ) := rowIs_below HZ3.out bq7
      have k0 := HZ7.out.cell (i := 0) (by omega)
      have k1 := HZ7.out.cell (i := 1) (by omega)
      have k2 := HZ7.out.cell (i := 2) (by omega)
      have k3 := HZ7.out.cell (i := 3) (by omega)
      have k4 := HZ7.out.cell (i := 4) (by omega)
      have k5 := HZ7.out.cell (i := 5) (by omega)
      have k6 := HZ7.out.cell (i := 6) (by omega)
      have kf := HZ7.out.frozen
      simp only [courseZ] at k0 k1 k2 k3 k4 k5 k6
      clear hBnd hBR hbl HFZ HCL
      go_wp2
      refine bodyPost_ret (v := .tuple #[.agg #[.slice ap P.np cp, .slice az P.nz cz, .int .i64 P.train, .int .i64 P.fin, .int .i64 P.delay, .slice (some ⟨g, 0, none⟩) P.np P.np, .slice (some ⟨gb, 0, none⟩) (P.nz + 1) cb], .bool true]) (by simp [results, Try.results46, go_sem, *]) rfl ⟨_, rfl, ?_, ?_⟩
      · have hb8 : ∀ v0 v1 v2 v3 v4 v5 v6, Below w.heap.size w7 (((((((w7.setCell ⟨w.heap.size + 1, 0, none⟩ v0).setCell ⟨w.heap.size + 1, 1, none⟩ v1).setCell ⟨w.heap.size + 1, 2, none⟩ v2).setCell ⟨w.heap.size + 1, 3, none⟩ v3).setCell ⟨w.heap.size + 1, 4, none⟩ v4).setCell ⟨w.heap.size + 1, 5, none⟩ v5).setCell ⟨w.heap.size + 1, 6, none⟩ v6) := fun v0 v1 v2 v3 v4 v5 v6 => by
          iterate 7 refine Below.setCell ?_ (by simp) _
          exact Below.refl _ _
        refine ⟨ap, cp, az, cz, g, gb, P.nz + 1, cb, b, rfl, ⟨ap, cp, az, cz, g, rfl, hn, hn', HR2.out.below (b7.trans (hb8 _ _ _ _ _ _ _)), HR3.out.below (b7.trans (hb8 _ _ _ _ _ _ _)), ?_⟩, by omega, ?_, HBN.out⟩
        · iterate 7 refine World.rowIs.setOther ?_ (by simp; omega) _
          exact HR7.out
        · iterate 7 refine BRow.setOther ?_ (by simp; omega) _
          exact HBR.out
      · iterate 7 refine Below.setCell ?_ (by simp) _
        exact b7

set_option maxHeartbeats 4000000 in
theorem courseWith_no (P : Prof) (v : Value) (x : Int) (w : World) (hl : P.Lies w v) (h : ¬ P.With x) :
    Calls Try.prog 46 #[v, .int .i64 x] w fun e w' => e = .returned (.tuple #[.agg #[.slice none 0 0, .slice none 0 0, .int .i64 0, .int .i64 0, .int .i64 0, .slice none 0 0, .slice none 0 0], .bool false]) ∧ Below w.heap.size w w' := by
  have HV : Hid (P.Lies w v) := hl
  have HN : Hid (¬ P.With x) := h
  obtain ⟨ap, cp, az, cz, rfl, hn, hn', hr2, hr3⟩ := hl
  clear hr2 hr3 h
  go_enter Try.func46, Try.ntmps46
  go_wp2_with fail
  generalize hW : (w.alloc _).alloc _ = W
  have bW : Below w.heap.size w W := by rw [← hW]; exact ((Below.refl _ _).alloc (Nat.le_refl _) _).alloc (by simp) _
  have sW : W.heap.size = w.heap.size + 1 + 1 := by rw [← hW]; simp
  have hz : W.rowIs (w.heap.size + 1) 71 7 courseZ := by
    have := World.rowIs_alloc (w.alloc (.cells #[.slice ap P.np cp, .slice az P.nz cz, .int .i64 P.train, .int .i64 P.fin, .int .i64 P.delay] 26)) #[Value.slice none 0 0, Value.slice none 0 0, Value.int .i64 0, Value.int .i64 0, Value.int .i64 0, Value.slice none 0 0, Value.slice none 0 0] 71 courseZ (fun i hi => by simp at hi; simp [courseZ, hi])
    rw [← hW]
    exact (by simpa using this)
  clear hW
  have hcon : Calls Try.prog 96 #[.agg #[.slice ap P.np cp, .slice az P.nz cz, .int .i64 P.train, .int .i64 P.fin, .int .i64 P.delay], .int .i64 x] W fun e w' => ∃ z : Nat, e = .returned (.tuple #[.agg #[.slice none 0 0, .slice none 0 0, .int .i64 0, .int .i64 0, .int .i64 0, .slice none 0 z], .bool false]) ∧ Below W.heap.size W w' := (wayWith_no P _ x _ (HV.out.below bW) HN.out).mono (fun e w' q => ⟨0, q.1, q.2⟩)
  refine hcon.mono ?_
  clear hcon
  rintro e w2 ⟨z, rfl, hb2⟩
  have b2 := bW.trans (hb2.mono bW.size)
  have s2 := hb2.size
  obtain ⟨W3, hW3⟩ : ∃ W3, w2.alloc (.cells #[.slice none 0 0, .slice none 0 0, .int .i64 0, .int .i64 0, .int .i64 0, .slice none 0 z] 68) = W3 := ⟨_, rfl⟩
  have b3 : Below w.heap.size w W3 := by rw [← hW3]; exact b2.alloc b2.size _
  have HZ3 : Hid (W3.rowIs (w.heap.size + 1) 71 7 courseZ) := by show World.rowIs _ _ _ _ _; rw [← hW3]; exact (rowIs_below hz hb2).alloc _
  have k0 := HZ3.out.cell (i := 0) (by omega)
  have k1 := HZ3.out.cell (i := 1) (by omega)
  have k2 := HZ3.out.cell (i := 2) (by omega)
  have k3 := HZ3.out.cell (i := 3) (by omega)
  have k4 := HZ3.out.cell (i := 4) (by omega)
  have k5 := HZ3.out.cell (i := 5) (by omega)
  have k6 := HZ3.out.cell (i := 6) (by omega)
  have kf := HZ3.out.frozen
  simp only [courseZ] at k0 k1 k2 k3 k4 k5 k6
  clear hb2 bW hz
  go_wp2
  refine bodyPost_ret (v := .tuple #[.agg #[.slice none 0 0, .slice none 0 0, .int .i64 0, .int .i64 0, .int .i64 0, .slice none 0 0, .slice none 0 0], .bool false]) (by simp [results, Try.results46, go_sem, *]) rfl ⟨rfl, ?_⟩
  iterate 7 refine Below.setCell ?_ (by simp) _
  exact b3

end Go.Proofs.Yteodefmpkljedaa
