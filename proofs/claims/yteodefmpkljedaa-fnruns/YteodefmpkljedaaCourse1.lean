/-
  The program's course: a train sent, a train a tick later, what is safe.
-/
import Derived.Test.YteodefmpkljedaaCourse
namespace Go.Proofs.Yteodefmpkljedaa
open Go.RowKit
attribute [local go_sem ↓] Go.wp_at_zero Go.wp_at_succ
set_option linter.unusedVariables false

def Tr.val (t : Tr) : Value := .agg #[.int .i64 t.speed, .int .i64 t.began, .int .i64 t.at_, .int .i64 t.keeps]
def Tr.cell (t : Tr) (i : Nat) : Value := #[Value.int .i64 t.speed, Value.int .i64 t.began, Value.int .i64 t.at_, Value.int .i64 t.keeps][i]!
/-- The bounds' cells. -/
def BRow (w : World) (h n : Nat) (b : Nat → Int × Int × Int) : Prop := h < w.heap.size ∧ ∀ i, i < n → w.cell? ⟨h, i * 3, none⟩ = some (.int .i64 (b i).1) ∧ w.cell? ⟨h, i * 3 + 1, none⟩ = some (.int .i64 (b i).2.1) ∧ w.cell? ⟨h, i * 3 + 2, none⟩ = some (.int .i64 (b i).2.2)
theorem BRow.below {w w1 : World} {h n : Nat} {b : Nat → Int × Int × Int} (k : BRow w h n b) (hb : Below w.heap.size w w1) : BRow w1 h n b :=
  ⟨Nat.lt_of_lt_of_le k.1 hb.size, fun i hi => ⟨(hb.cell (p := ⟨h, i * 3, none⟩) k.1).trans (k.2 i hi).1, (hb.cell (p := ⟨h, i * 3 + 1, none⟩) k.1).trans (k.2 i hi).2.1, (hb.cell (p := ⟨h, i * 3 + 2, none⟩) k.1).trans (k.2 i hi).2.2⟩⟩
/-- The value is a course over the profile. -/
def Prof.CourseIs (P : Prof) (w : World) (v : Value) : Prop :=
  ∃ ap cp az cz g h n cn b, v = .agg #[.slice ap P.np cp, .slice az P.nz cz, .int .i64 P.train, .int .i64 P.fin, .int .i64 P.delay, .slice (some ⟨g, 0, none⟩) P.np P.np, .slice (some ⟨h, 0, none⟩) n cn] ∧ P.WayIs w (.agg #[.slice ap P.np cp, .slice az P.nz cz, .int .i64 P.train, .int .i64 P.fin, .int .i64 P.delay, .slice (some ⟨g, 0, none⟩) P.np P.np]) ∧ n ≤ 61 ∧ BRow w h n b ∧ P.Bounds n b
theorem Prof.CourseIs.below {P : Prof} {w w1 : World} {v : Value} (h : P.CourseIs w v) (hb : Below w.heap.size w w1) : P.CourseIs w1 v := by
  obtain ⟨ap, cp, az, cz, g, h, n, cn, b, rfl, h1, h2, h3, h4⟩ := h
  exact ⟨ap, cp, az, cz, g, h, n, cn, b, rfl, h1.below hb, h2, h3.below hb, h4⟩

set_option maxHeartbeats 2000000 in
theorem sent_any (P : Prof) (ap az : Option Addr) (cp cz g h n cn : Nat) (y u : Int) (w : World) (hd : 0 ≤ P.delay) (hd' : P.delay ≤ 20) :
    Calls Try.prog 49 #[.agg #[.slice ap P.np cp, .slice az P.nz cz, .int .i64 P.train, .int .i64 P.fin, .int .i64 P.delay, .slice (some ⟨g, 0, none⟩) P.np P.np, .slice (some ⟨h, 0, none⟩) n cn], .int .i64 y, .int .i64 u] w fun e w' => e = .returned (P.sent y u).val ∧ Below w.heap.size w w' := by
  go_enter Try.func49, Try.ntmps49
  go_wp2
  refine bodyPost_ret (v := .agg #[.int .i64 u, .int .i64 y, .int .i64 y, .int .i64 (P.delay + 1)]) (by simp [results, Try.results49, go_sem, *]) rfl ⟨rfl, ?_⟩
  exact ((Below.refl _ _).alloc (Nat.le_refl _) _).alloc (by simp) _

set_option maxHeartbeats 4000000 in
theorem next_keep (P : Prof) (v : Value) (s bg a k : Int) (w : World) (hc : P.CourseIs w v) (s0 : 0 ≤ s) (s1 : s ≤ 10000) (a0 : 0 ≤ a) (a1 : a ≤ 1000000000) (k0 : 0 < k) (k1 : k ≤ 21) :
    Calls Try.prog 100 #[v, .agg #[.int .i64 s, .int .i64 bg, .int .i64 a, .int .i64 k]] w fun e w' => e = .returned (.agg #[.int .i64 s, .int .i64 a, .int .i64 (a + s), .int .i64 (k - 1)]) ∧ Below w.heap.size w w' := by
  obtain ⟨ap, cp, az, cz, g, h, n, cn, b, rfl, hway, hn, hrow, hB⟩ := hc
  clear hway hrow hB
  go_enter Try.func100, Try.ntmps100
  go_wp2
  refine bodyPost_ret (v := .agg #[.int .i64 s, .int .i64 a, .int .i64 (a + s), .int .i64 (k - 1)]) (by simp [results, Try.results100, go_sem, *]) rfl ⟨rfl, ?_⟩
  exact (((Below.refl _ _).alloc (Nat.le_refl _) _).alloc (by simp) _).alloc (by simp; omega) _

set_option maxHeartbeats 4000000 in
theorem next_brake (P : Prof) (v : Value) (s bg a : Int) (w : World) (hc : P.CourseIs w v) (hf : P.Fit) (s0 : 0 ≤ s) (s1 : s ≤ 10000) (a0 : 0 ≤ a) (a1 : a ≤ 1000000000) :
    Calls Try.prog 100 #[v, .agg #[.int .i64 s, .int .i64 bg, .int .i64 a, .int .i64 0]] w fun e w' => e = .returned (.agg #[.int .i64 (less s (P.rate bg)), .int .i64 a, .int .i64 (a + less s (P.rate bg)), .int .i64 0]) ∧ Below w.heap.size w w' := by
  obtain ⟨ap, cp, az, cz, g, h, n, cn, b, rfl, hway, hn, hrow, hB⟩ := hc
  have HW : Hid (P.WayIs w _) := hway
  have HF : Hid P.Fit := hf
  obtain ⟨r0, r1⟩ := hf.rate bg
  clear hway hrow hB hf
  go_enter Try.func100, Try.ntmps100
  go_wp2_with fail
  generalize hW : ((w.alloc _).alloc _).alloc _ = W
  have bW : Below w.heap.size w W := by rw [← hW]; exact (((Below.refl _ _).alloc (Nat.le_refl _) _).alloc (by simp) _).alloc (by simp; omega) _
  have sW : W.heap.size = w.heap.size + 1 + 1 + 1 := by rw [← hW]; simp
  have x0 : W.cell? ⟨w.heap.size, 0, none⟩ = some (.slice ap P.np cp) := by subst hW; go_simp
  have x1 : W.cell? ⟨w.heap.size, 1, none⟩ = some (.slice az P.nz cz) := by subst hW; go_simp
  have x2 : W.cell? ⟨w.heap.size, 2, none⟩ = some (.int .i64 P.train) := by subst hW; go_simp
  have x3 : W.cell? ⟨w.heap.size, 3, none⟩ = some (.int .i64 P.fin) := by subst hW; go_simp
  have x4 : W.cell? ⟨w.heap.size, 4, none⟩ = some (.int .i64 P.delay) := by subst hW; go_simp
  have x5 : W.cell? ⟨w.heap.size, 5, none⟩ = some (.slice (some ⟨g, 0, none⟩) P.np P.np) := by subst hW; go_simp
  have t0 : W.cell? ⟨w.heap.size + 1, 0, none⟩ = some (.int .i64 s) := by subst hW; go_simp
  have t1 : W.cell? ⟨w.heap.size + 1, 1, none⟩ = some (.int .i64 bg) := by subst hW; go_simp
  have HT : Hid (W.rowIs (w.heap.size + 1) 78 4 (Tr.cell ⟨s, bg, a, 0⟩)) := by
    have := World.rowIs_alloc (w.alloc (.cells #[.slice ap P.np cp, .slice az P.nz cz, .int .i64 P.train, .int .i64 P.fin, .int .i64 P.delay, .slice (some ⟨g, 0, none⟩) P.np P.np, .slice (some ⟨h, 0, none⟩) n cn] 71)) #[.int .i64 s, .int .i64 bg, .int .i64 a, .int .i64 0] 78 (Tr.cell ⟨s, bg, a, 0⟩) (fun i hi => by simp at hi; simp [Tr.cell, hi])
    show World.rowIs _ _ _ _ _
    subst hW
    exact (by simpa using this.alloc _)
  have HR : Hid (W.rowIs (w.heap.size + 1 + 1) 78 4 (Tr.cell ⟨0, 0, 0, 0⟩)) := by
    have := World.rowIs_alloc ((w.alloc (.cells #[.slice ap P.np cp, .slice az P.nz cz, .int .i64 P.train, .int .i64 P.fin, .int .i64 P.delay, .slice (some ⟨g, 0, none⟩) P.np P.np, .slice (some ⟨h, 0, none⟩) n cn] 71)).alloc (.cells #[.int .i64 s, .int .i64 bg, .int .i64 a, .int .i64 0] 78)) #[.int .i64 0, .int .i64 0, .int .i64 0, .int .i64 0] 78 (Tr.cell ⟨0, 0, 0, 0⟩) (fun i hi => by simp at hi; simp [Tr.cell, hi])
    show World.rowIs _ _ _ _ _
    subst hW
    exact (by simpa using this)
  have t2 : W.cell? ⟨w.heap.size + 1, 2, none⟩ = some (.int .i64 a) := by subst hW; go_simp
  have t3 : W.cell? ⟨w.heap.size + 1, 3, none⟩ = some (.int .i64 0) := by subst hW; go_simp
  clear hW
  obtain ⟨Bt, hBt⟩ : ∃ Bt, w.heap.size + 1 = Bt := ⟨_, rfl⟩
  obtain ⟨Br, hBr⟩ : ∃ Br, w.heap.size + 1 + 1 = Br := ⟨_, rfl⟩
  rw [hBr] at HR ⊢
  rw [hBt] at t0 t1 t2 t3 HT ⊢
  have HD : Hid (W.drew.cell? ⟨Bt, 0, none⟩ = some (.int .i64 s) ∧ W.drew.cell? ⟨Bt, 2, none⟩ = some (.int .i64 a) ∧ W.drew.cell? ⟨Bt, 3, none⟩ = some (.int .i64 0) ∧ W.drew.cell? ⟨Bt, 1, none⟩ = some (.int .i64 bg) ∧ Bt < W.drew.heap.size ∧ Br < W.drew.heap.size ∧ W.drew.cell? ⟨Br, 0, none⟩ = some (.int .i64 0)) := ⟨t0, t2, t3, t1, by simp; omega, by simp; omega, HR.out.cell (by omega)⟩
  have q1 : w.heap.size ≤ Bt := by omega
  have q2 : w.heap.size ≤ Br := by omega
  have q3 : Bt ≠ Br := by omega
  clear hBt hBr
  have HM : Hid ((if s - P.rate bg < 0 then 0 else s - P.rate bg) = less s (P.rate bg)) := by show _ = _; unfold less; split <;> split <;> omega
  obtain ⟨l0, l1⟩ := less_bounds (v := s) (b := P.rate bg) s0 (by omega)
  go_region_with (go_at_call 107; refine (brakeAt_any P _ bg _ (HW.out.below bW.drew) HF.out.up HF.out.np).mono ?_; rintro e w2 ⟨rfl, hb2⟩; have u0 : w2.cell? ⟨Bt, 0, none⟩ = some (.int .i64 s) := (hb2.cell (p := ⟨Bt, 0, none⟩) HD.out.2.2.2.2.1).trans HD.out.1; have u2 : w2.cell? ⟨Bt, 2, none⟩ = some (.int .i64 a) := (hb2.cell (p := ⟨Bt, 2, none⟩) HD.out.2.2.2.2.1).trans HD.out.2.1; have u3 : w2.cell? ⟨Bt, 3, none⟩ = some (.int .i64 0) := (hb2.cell (p := ⟨Bt, 3, none⟩) HD.out.2.2.2.2.1).trans HD.out.2.2.1; have u1 : w2.cell? ⟨Bt, 1, none⟩ = some (.int .i64 bg) := (hb2.cell (p := ⟨Bt, 1, none⟩) HD.out.2.2.2.2.1).trans HD.out.2.2.2.1; have uf := (rowIs_below HT.out.drew hb2).frozen; have b2 : Below w.heap.size w w2 := bW.drew.trans (hb2.mono (by simp; omega)); have H2 : Hid (w2.rowIs Br 78 4 (Tr.cell ⟨0, 0, 0, 0⟩)) := rowIs_below HR.out.drew hb2; clear hb2)
  all_goals rw [wrapIn (x := s - P.rate bg) (by omega) (by omega), HM.out]
  all_goals have rf := H2.out.frozen
  all_goals have v0 := H2.out.cell (i := 0) (by omega)
  all_goals have v1 := H2.out.cell (i := 1) (by omega)
  all_goals have v2 := H2.out.cell (i := 2) (by omega)
  all_goals have v3 := H2.out.cell (i := 3) (by omega)
  all_goals simp only [Tr.cell] at v0 v1 v2 v3
  all_goals go_wp2
  all_goals refine bodyPost_ret (v := .agg #[.int .i64 (less s (P.rate bg)), .int .i64 a, .int .i64 (a + less s (P.rate bg)), .int .i64 0]) (by simp [results, Try.results100, go_sem, *]) rfl ⟨rfl, ?_⟩
  all_goals (repeat refine Below.setCell ?_ (by simp; omega) _)
  all_goals exact b2

theorem next_any (P : Prof) (v : Value) (t : Tr) (w : World) (hc : P.CourseIs w v) (hf : P.Fit) (s0 : 0 ≤ t.speed) (s1 : t.speed ≤ 10000) (a0 : 0 ≤ t.at_) (a1 : t.at_ ≤ 1000000000) (k0 : 0 ≤ t.keeps) (k1 : t.keeps ≤ 21) :
    Calls Try.prog 100 #[v, t.val] w fun e w' => e = .returned (P.tnext t).val ∧ Below w.heap.size w w' := by
  by_cases c : 0 < t.keeps
  · have e : P.tnext t = ⟨t.speed, t.at_, t.at_ + t.speed, t.keeps - 1⟩ := if_pos c
    rw [e]
    exact next_keep P v t.speed t.began t.at_ t.keeps w hc s0 s1 a0 a1 c k1
  · have e : P.tnext t = ⟨less t.speed (P.rate t.began), t.at_, t.at_ + less t.speed (P.rate t.began), t.keeps⟩ := if_neg c
    have k : t.keeps = 0 := by omega
    rw [e]
    unfold Tr.val
    dsimp only
    rw [k]
    exact next_brake P v t.speed t.began t.at_ w hc hf s0 s1 a0 a1

end Go.Proofs.Yteodefmpkljedaa
