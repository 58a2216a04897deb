/-
  The program's table of rounds and its queue.
-/
import Derived.Test.YteodefmpkljedaaTrip3
import Derived.Test.YteodefmpkljedaaZero
import Derived.Test.YteodefmpkljedaaSpecFast
namespace Go.Proofs.Yteodefmpkljedaa
open Go.RowKit Go.Sort Go.Shelf
attribute [local go_sem ↓] Go.wp_at_zero Go.wp_at_succ
set_option linter.unusedVariables false

/-- The table: by state one more than the ticks home. -/
def Tab (w : World) (H : Nat) (L : Nat → Int) : Prop := w.rowIs H 134 122061 (fun i => .int .i16 (L i + 1))
theorem Tab.below {w w1 : World} {H : Nat} {L : Nat → Int} (h : Tab w H L) (hb : Below w.heap.size w w1) : Tab w1 H L := rowIs_below h hb
theorem Tab.at {w : World} {H : Nat} {L : Nat → Int} (h : Tab w H L) {d v : Int} (d0 : 0 ≤ d) (d1 : d ≤ 2000) (v0 : 0 ≤ v) (v1 : v ≤ 60) : ∃ i j : Nat, d = i ∧ v = j ∧ i ≤ 2000 ∧ j ≤ 60 ∧ stn d v = i * 61 + j ∧ w.cell? ⟨H, i * 61 + j, none⟩ = some (.int .i16 (L (stn d v) + 1)) := by
  refine ⟨d.toNat, v.toNat, by omega, by omega, by omega, by omega, by unfold stn; omega, ?_⟩
  have e : stn d v = d.toNat * 61 + v.toNat := by unfold stn; omega
  rw [← e]
  exact h.cell (i := stn d v) (by omega)

theorem idx_rounds (w : World) (H i : Nat) (hi : i ≤ 2000) : (Instr.indexAt 134 (.pointer (some ⟨H, 0, none⟩)) (.int .i64 i)).run Try.prog w = .ok (.pointer (some ⟨H, i * 61, none⟩)) w := by
  have h1 : Try.prog.arrayLen 134 = 2001 := by kernel_rfl
  have h2 : Try.prog.elem 134 = 132 := by kernel_rfl
  have h3 : Try.prog.underlying 134 = some (.array (Try.prog.arrayLen 134) (Try.prog.elem 134)) := by rw [h1, h2]; exact Try.underlying134
  rw [run_indexAt_array (h := h3), h1, h2, if_pos (by omega)]
  simp [Addr.add, Try.sizeOf132]
  omega
theorem idx_line (w : World) (H o j : Nat) (hj : j ≤ 60) : (Instr.indexAt 132 (.pointer (some ⟨H, o, none⟩)) (.int .i64 j)).run Try.prog w = .ok (.pointer (some ⟨H, o + j, none⟩)) w := by
  have h1 : Try.prog.arrayLen 132 = 61 := by kernel_rfl
  have h2 : Try.prog.elem 132 = 107 := by kernel_rfl
  have h3 : Try.prog.underlying 132 = some (.array (Try.prog.arrayLen 132) (Try.prog.elem 132)) := by rw [h1, h2]; exact Try.underlying132
  rw [run_indexAt_array (h := h3), h1, h2, if_pos (by omega)]
  simp [Addr.add, Try.sizeOf107]

set_option maxHeartbeats 2000000 in
theorem of_any (w : World) (H : Nat) (L : Nat → Int) (d v : Int) (h : Tab w H L) (d0 : 0 ≤ d) (d1 : d ≤ 2000) (v0 : 0 ≤ v) (v1 : v ≤ 60) :
    Calls Try.prog 80 #[.pointer (some ⟨H, 0, none⟩), stV d v] w fun e w' => e = .returned (.int .i16 (L (stn d v) + 1)) ∧ Below w.heap.size w w' := by
  obtain ⟨i, j, rfl, rfl, hi, hj, _, c0⟩ := h.at d0 d1 v0 v1
  have x1 : ∀ w : World, (Instr.indexAt 134 (.pointer (some ⟨H, 0, none⟩)) (.int .i64 i)).run Try.prog w = .ok (.pointer (some ⟨H, i * 61, none⟩)) w := fun w => idx_rounds w H i hi
  have x2 : ∀ w : World, (Instr.indexAt 132 (.pointer (some ⟨H, i * 61, none⟩)) (.int .i64 j)).run Try.prog w = .ok (.pointer (some ⟨H, i * 61 + j, none⟩)) w := fun w => idx_line w H (i * 61) j hj
  have k1 : Try.prog.arrayLen 134 = 2001 := by kernel_rfl
  have k2 : Try.prog.elem 134 = 132 := by kernel_rfl
  have k3 : Try.prog.arrayLen 132 = 61 := by kernel_rfl
  have k4 : Try.prog.elem 132 = 107 := by kernel_rfl
  have hHl := h.lt
  clear h d0 d1 v0 v1
  generalize L (stn i j) + 1 = ℓ at *
  unfold stV
  go_enter Try.func80, Try.ntmps80
  go_wp2_with fail
  go_quiet (fail)
  go_wp2
  go_ret
  exact ⟨rfl, below_drewN ((Below.refl _ _).alloc (Nat.le_refl _) _) _⟩

theorem Try.infoState : (Try.prog.info? 110).map (fun i => (i.zero, i.size, i.bytes)) = some (some (.agg #[.int .i64 0, .int .i64 0]), 2, 16) := by kernel_rfl
/-- The queue's two cells. -/
def q2 (sv : Value) (k : Nat) (i : Nat) : Value := if i = 0 then sv else .int .i64 k
/-- The queue: what was put into it, how many are taken. -/
def QAt (w : World) (Q : Nat) (sv : Value) (len k : Nat) (A V : Nat → Int) : Prop :=
  w.rowIs Q 137 2 (q2 sv k) ∧ w.ownsRow (Q + 1) 110 2 sv len (pairs A V len)
/-- All blocks but the queue's and its row's are as they were. -/
structure Holds (w w' : World) (Q : Nat) (sv : Value) : Prop where
  os : w'.os = w.os
  tape : w'.tape = w.tape
  output : w'.output = w.output
  size : w.heap.size ≤ w'.heap.size
  block : ∀ b, b < w.heap.size → b ≠ Q → sv.ownBlock ≠ some b → w'.heap[b]? = w.heap[b]?
theorem Holds.row {w w' : World} {Q : Nat} {sv : Value} (h : Holds w w' Q sv) {b t n : Nat} {f : Nat → Value} (hr : w.rowIs b t n f) (hb : b ≠ Q) (hs : sv.ownBlock ≠ some b) : w'.rowIs b t n f := hr.of_block (h.block b hr.lt hb hs)
theorem Holds.below {w w' : World} {Q : Nat} {sv : Value} (h : Holds w w' Q sv) {B : Nat} (hB : B ≤ Q) (hw : B ≤ w.heap.size) (hs : ∀ k, sv.ownBlock = some k → Q < k) : Below B w w' :=
  ⟨h.os, h.tape, h.output, h.size, fun b hb => h.block b (by omega) (by omega) (fun e => by have := hs b e; omega)⟩

set_option maxHeartbeats 4000000 in
theorem put_any (w : World) (Q : Nat) (sv : Value) (len k : Nat) (A V : Nat → Int) (d v : Int) (h : QAt w Q sv len k A V) (hl : len ≤ 1000000) :
    Calls Try.prog 110 #[.pointer (some ⟨Q, 0, none⟩), stV d v] w fun e w' => e = .returned (.tuple #[]) ∧ ∃ sv', QAt w' Q sv' (len + 1) k (upd A len d) (upd V len v) ∧ Holds w w' Q sv := by
  obtain ⟨i0, hi, hz0, hz1, hz2⟩ := info_parts Try.infoState
  obtain ⟨hq, ho⟩ := h
  have HQ : Hid (w.rowIs Q 137 2 (q2 sv k)) := hq
  have HO : Hid (w.ownsRow (Q + 1) 110 2 sv len (pairs A V len)) := ho
  obtain ⟨av, cv, rfl, hcv, hcv2, hav⟩ := owned_shape ho
  have c0 : w.cell? ⟨Q, 0, none⟩ = some (.slice av len cv) := hq.cell (i := 0) (by omega)
  have hQl := hq.lt
  clear hq ho hav
  unfold stV
  go_enter Try.func110, Try.ntmps110
  go_wp2_with fail
  obtain ⟨W, hW⟩ : ∃ W, w.alloc (.cells #[.int .i64 d, .int .i64 v] 110) = W := ⟨_, rfl⟩
  have bW : Below w.heap.size w W := by rw [← hW]; exact (Below.refl _ _).alloc (Nat.le_refl _) _
  have s0 : W.cell? ⟨w.heap.size, 0, none⟩ = some (.int .i64 d) := by subst hW; go_simp
  have s1 : W.cell? ⟨w.heap.size, 1, none⟩ = some (.int .i64 v) := by subst hW; go_simp
  have cq : W.cell? ⟨Q, 0, none⟩ = some (.slice av len cv) := (bW.cell (p := ⟨Q, 0, none⟩) hQl).trans c0
  have HOW : Hid (W.ownsRow (Q + 1) 110 2 (.slice av len cv) len (pairs A V len)) := ownsRow_below HO.out bW
  have HQW : Hid (W.rowIs Q 137 2 (q2 (.slice av len cv) k)) := rowIs_below HQ.out bW
  have sW : W.heap.size = w.heap.size + 1 := by rw [← hW]; simp
  rw [hW]
  clear c0 hW
  have hS0 : (fun y : World => y.cell? ⟨w.heap.size, 0, none⟩ = some (.int .i64 d) ∧ y.cell? ⟨w.heap.size, 1, none⟩ = some (.int .i64 v) ∧ y.cell? ⟨Q, 0, none⟩ = some (.slice av len cv)) W.drew := ⟨s0, s1, cq⟩
  refine wp_region_any (by kernel_rfl) (wpAnyU.any (S := fun y : World => y.cell? ⟨w.heap.size, 0, none⟩ = some (.int .i64 d) ∧ y.cell? ⟨w.heap.size, 1, none⟩ = some (.int .i64 v) ∧ y.cell? ⟨Q, 0, none⟩ = some (.slice av len cv)) (m := 10) _ _ _ _ ?_)
  change wpAnyU _ _ _ _ _ _ 11 _ _ W.drew
  refine wpAnyU_take (i := 0) (v := .pointer (some ⟨Q, 0, none⟩)) rfl (by kernel_rfl) (by kernel_rfl) (by kernel_rfl) (by kernel_rfl) (fun _ _ _ h => h) (Or.inl ⟨by rfl, fun y hy => ?_⟩) hS0 ?_
  · obtain ⟨k0, k1, k2⟩ := hy
    go_simp
  refine wpAnyU_take (i := 1) (v := .pointer (some ⟨Q, 0, none⟩)) rfl (by kernel_rfl) (by kernel_rfl) (by kernel_rfl) (by kernel_rfl) (fun _ _ _ h => h) (Or.inl ⟨by rfl, fun y hy => ?_⟩) hS0 ?_
  · obtain ⟨k0, k1, k2⟩ := hy
    go_simp
  refine wpAnyU_take (i := 2) (v := .pointer (some ⟨Q, 0, none⟩)) rfl (by kernel_rfl) (by kernel_rfl) (by kernel_rfl) (by kernel_rfl) (fun _ _ _ h => h) (Or.inl ⟨by rfl, fun y hy => ?_⟩) hS0 ?_
  · obtain ⟨k0, k1, k2⟩ := hy
    go_simp
  refine wpAnyU_take (i := 3) (v := .pointer (some ⟨Q, 0, none⟩)) rfl (by kernel_rfl) (by kernel_rfl) (by kernel_rfl) (by kernel_rfl) (fun _ _ _ h => h) (Or.inl ⟨by rfl, fun y hy => ?_⟩) hS0 ?_
  · obtain ⟨k0, k1, k2⟩ := hy
    go_simp
  refine wpAnyU_take (i := 4) (v := .slice av len cv) rfl (by kernel_rfl) (by kernel_rfl) (by kernel_rfl) (by kernel_rfl) (fun _ _ _ h => h) (Or.inl ⟨by rfl, fun y hy => ?_⟩) hS0 ?_
  · obtain ⟨k0, k1, k2⟩ := hy
    go_simp
  refine wpAnyU_take (i := 5) (v := .agg #[.int .i64 d, .int .i64 v]) rfl (by kernel_rfl) (by kernel_rfl) (by kernel_rfl) (by kernel_rfl) (fun _ _ _ h => h) (Or.inl ⟨by rfl, fun y hy => ?_⟩) hS0 ?_
  · obtain ⟨k0, k1, k2⟩ := hy
    go_simp
  refine wpAnyU_one (i := 6) rfl (by kernel_rfl) (fun K hK => ?_)
  go_simp
  have bq : Below W.heap.size W (W.alloc (.cells #[.int .i64 d, .int .i64 v] 110)) := (Below.refl _ _).alloc (Nat.le_refl _) _
  have hS1 : (fun y : World => y.cell? ⟨w.heap.size, 0, none⟩ = some (.int .i64 d) ∧ y.cell? ⟨w.heap.size, 1, none⟩ = some (.int .i64 v) ∧ y.cell? ⟨Q, 0, none⟩ = some (.slice av len cv)) (W.alloc (.cells #[.int .i64 d, .int .i64 v] 110)).drew := ⟨(bq.cell (p := ⟨w.heap.size, 0, none⟩) (by simp; omega)).trans s0, (bq.cell (p := ⟨w.heap.size, 1, none⟩) (by simp; omega)).trans s1, (bq.cell (p := ⟨Q, 0, none⟩) (by simp; omega)).trans cq⟩
  refine hK _ _ (Or.inr hS1) ?_
  clear hK K
  have a0 : (W.alloc (.cells #[.int .i64 d, .int .i64 v] 110)).cell? ⟨w.heap.size + 1, 0, none⟩ = some (.int .i64 d) := by rw [← sW]; go_simp
  have a1 : (W.alloc (.cells #[.int .i64 d, .int .i64 v] 110)).cell? ⟨w.heap.size + 1, 1, none⟩ = some (.int .i64 v) := by rw [← sW]; go_simp
  refine wpAnyU_one (i := 7) rfl (by kernel_rfl) (fun K hK => ?_)
  rw [if_pos (show Region.wanted _ _ = true from by simp [Region.wanted])]
  have HOA : Hid ((W.alloc (.cells #[.int .i64 d, .int .i64 v] 110)).drew.ownsRow (Q + 1) 110 2 (.slice av len cv) len (pairs A V len)) := ownsRow_below HOW.out bq.drew
  refine wp_append_own _ (.tmp 8) (.tmp 10) 135 rfl (Q + 1) 110 i0 (.agg #[.int .i64 0, .int .i64 0]) 2 16 Try.underlying135 hi hz0 hz1 hz2 rfl (by decide) (.slice av len cv) len (pairs A V len) (by simp [Act.eval]) HOA.out ⟨w.heap.size + 1, 0, none⟩ 1 1 [.int .i64 d, .int .i64 v] (by simp [Act.eval]) rfl ?c1 ?c2 ?c3 ?c4 ?c5 ?_
  case c1 =>
    intro j u hj
    match j, hj with
    | 0, hj => simp at hj; subst hj; exact a0
    | 1, hj => simp at hj; subst hj; exact a1
  case c2 => intro u hu; simp at hu; rcases hu with rfl | rfl <;> rfl
  case c3 => unfold maxLen; omega
  case c4 => omega
  case c5 => simp; omega
  intro sv' w9 hown9 hgrow9 _
  have hob := ownsRow_block HOA.out
  have hol := HO.out.lt
  have g1 : W.heap.size + 1 ≤ w9.heap.size := by have := hgrow9.size; simpa using this
  have hS2 : (fun y : World => y.cell? ⟨w.heap.size, 0, none⟩ = some (.int .i64 d) ∧ y.cell? ⟨w.heap.size, 1, none⟩ = some (.int .i64 v) ∧ y.cell? ⟨Q, 0, none⟩ = some (.slice av len cv)) w9 := by
    obtain ⟨q0, q1, q2⟩ := hS1
    refine ⟨hgrow9.cell q0 (fun e => ?_), hgrow9.cell q1 (fun e => ?_), hgrow9.cell q2 (fun e => ?_)⟩
    · have := (hol _ e.symm).2; simp at this
    · have := (hol _ e.symm).2; simp at this
    · have := hob _ e.symm; simp at this; omega
  refine hK _ _ (Or.inr hS2) ?_
  clear hK K
  have HO9 : Hid (w9.ownsRow (Q + 1) 110 2 sv' (len + 1) (pairs A V len ++ [.int .i64 d, .int .i64 v])) := hown9
  obtain ⟨av', cv', rfl, _, _, _⟩ := owned_shape hown9
  have HQ9 : Hid (w9.rowIs Q 137 2 (q2 (.slice av len cv) k)) := by
    refine World.rowIs.of_block (rowIs_below HQW.out bq.drew) (hgrow9.block Q (by simp; omega) (fun e => ?_))
    have := hob _ e.symm
    omega
  have HB9 : Hid (∀ b, b < w.heap.size → (Value.slice av len cv).ownBlock ≠ some b → w9.heap[b]? = w.heap[b]?) := fun b hb hs => by
    rw [hgrow9.block b (by simp; omega) (fun e => hs e.symm)]
    exact (bW.trans ((bq.drew).mono bW.size)).block b hb
  have HE9 : Hid (w9.os = w.os ∧ w9.tape = w.tape ∧ w9.output = w.output) := by
    have e1 := bW.trans ((bq.drew).mono bW.size)
    exact ⟨hgrow9.os.trans e1.os, hgrow9.tape.trans e1.tape, hgrow9.output.trans e1.output⟩
  have cq9 := HQ9.out.cell (i := 0) (by omega)
  have cf9 := HQ9.out.frozen
  clear hown9 hgrow9 HOA HOW HQW hob hol hS1 hS0 s0 s1 cq bq a0 a1
  refine wpAnyU_one (i := 8) rfl (by kernel_rfl) (fun K hK => ?_)
  go_simp
  refine hK _ _ (Or.inr hS2) ?_
  clear hK K
  refine wpAnyU_one (i := 9) rfl (by kernel_rfl) (fun K hK => ?_)
  go_simp
  refine hK _ _ (Or.inr hS2) ?_
  clear hK K
  refine wpAnyU_one (i := 10) rfl (by kernel_rfl) (fun K hK => ?_)
  go_simp
  refine hK _ _ (Or.inl rfl) ?_
  clear hK K
  refine wpAnyU_done (by kernel_rfl) ?_ _
  go_wp2
  refine bodyPost_end (results_none (by kernel_rfl) _ _ _) rfl ⟨rfl, ⟨.slice av' (len + 1) cv', ?_, ?_⟩, ?_⟩
  · exact (HQ9.out.set 0 _).congr (fun i hi => match i, hi with | 0, _ => rfl | 1, _ => rfl)
  · have e : pairs (upd A len d) (upd V len v) (len + 1) = pairs A V len ++ [.int .i64 d, .int .i64 v] := by
      rw [pairs, upd_same, upd_same, pairs_congr len (fun j hj => ⟨upd_other A d (show j ≠ len by omega), upd_other V v (show j ≠ len by omega)⟩)]
    rw [e]
    exact owned_other HO9.out (by simp) _
  · refine ⟨HE9.out.1, HE9.out.2.1, HE9.out.2.2, by simp; omega, fun b hb hbQ hs => ?_⟩
    rw [Below.heap_setCell _ _ _ _ (by simpa using hbQ)]
    exact HB9.out b hb hs

set_option maxHeartbeats 4000000 in
theorem take_none (w : World) (Q : Nat) (sv : Value) (len : Nat) (A V : Nat → Int) (h : QAt w Q sv len len A V) (hl : len ≤ 1000000) :
    Calls Try.prog 111 #[.pointer (some ⟨Q, 0, none⟩)] w fun e w' => e = .returned (.tuple #[stV 0 0, .bool false]) ∧ Below w.heap.size w w' := by
  obtain ⟨hq, ho⟩ := h
  obtain ⟨av, cv, rfl, hcv, hcv2, hav⟩ := owned_shape ho
  have c0 : w.cell? ⟨Q, 0, none⟩ = some (.slice av len cv) := hq.cell (i := 0) (by omega)
  have c1 : w.cell? ⟨Q, 1, none⟩ = some (.int .i64 len) := hq.cell (i := 1) (by omega)
  have hQl := hq.lt
  clear hq ho hav
  go_enter Try.func111, Try.ntmps111
  go_wp2_with fail
  go_quiet (fail)
  go_wp2
  refine bodyPost_ret (v := .tuple #[.agg #[.int .i64 0, .int .i64 0], .bool false]) (by simp [results, Try.results111, go_sem, *]) rfl ⟨rfl, ?_⟩
  iterate 2 refine Below.setCell ?_ (by simp) _
  exact below_drewN ((Below.refl _ _).alloc (Nat.le_refl _) _) _

set_option maxHeartbeats 4000000 in
theorem take_some (w : World) (Q : Nat) (sv : Value) (len k : Nat) (A V : Nat → Int) (h : QAt w Q sv len k A V) (hk : k < len) (hl : len ≤ 1000000) :
    Calls Try.prog 111 #[.pointer (some ⟨Q, 0, none⟩)] w fun e w' => e = .returned (.tuple #[stV (A k) (V k), .bool true]) ∧ QAt w' Q sv len (k + 1) A V ∧ Holds w w' Q sv := by
  have HH : Hid (QAt w Q sv len k A V) := h
  obtain ⟨hq, ho⟩ := h
  obtain ⟨g, cv, rfl, hg, hgl, hcl⟩ := owned_cell ho (by omega)
  obtain ⟨p0, p1⟩ := pairs_get A V len k hk
  have c2 := hcl _ _ p0
  have c3 := hcl _ _ p1
  have c0 : w.cell? ⟨Q, 0, none⟩ = some (.slice (some ⟨g, 0, none⟩) len cv) := hq.cell (i := 0) (by omega)
  have c1 : w.cell? ⟨Q, 1, none⟩ = some (.int .i64 k) := hq.cell (i := 1) (by omega)
  have cf := hq.frozen
  have hQl := hq.lt
  have hne : ((k : Int) == (len : Int)) = false := by simp; omega
  clear hq ho hcl p0 p1
  generalize A k = d at *
  generalize V k = v at *
  go_enter Try.func111, Try.ntmps111
  go_wp2_with fail
  go_quiet (fail)
  go_wp2_with fail
  obtain ⟨W, hW⟩ : ∃ W, ((w.alloc (.cells #[.int .i64 0, .int .i64 0] 110)).drewN nq).setCell ⟨Q, 1, none⟩ (.int .i64 ((k : Int) + 1)) = W := ⟨_, rfl⟩
  have bA : Below w.heap.size w ((w.alloc (.cells #[.int .i64 0, .int .i64 0] 110)).drewN nq) := below_drewN ((Below.refl _ _).alloc (Nat.le_refl _) _) _
  have HQA : Hid (W.rowIs Q 137 2 (q2 (.slice (some ⟨g, 0, none⟩) len cv) (k + 1))) := by
    show World.rowIs _ _ _ _ _
    rw [← hW]
    exact ((rowIs_below HH.out.1 bA).set 1 _).congr (fun i hi => match i, hi with | 0, _ => rfl | 1, _ => by simp [q2])
  have HOA : Hid (W.ownsRow (Q + 1) 110 2 (.slice (some ⟨g, 0, none⟩) len cv) len (pairs A V len)) := by
    show World.ownsRow _ _ _ _ _ _ _
    rw [← hW]
    exact owned_other (ownsRow_below HH.out.2 bA) (by simp) _
  have HR : Hid (W.rowIs w.heap.size 110 2 (stC 0 0)) := by
    show World.rowIs _ _ _ _ _
    rw [← hW]
    exact World.rowIs.setOther ((StAt.new w 0 0)) (by simp; omega) _
  have HB : Hid (∀ b, b < w.heap.size → b ≠ Q → W.heap[b]? = w.heap[b]?) := fun b hb hbQ => by
    rw [← hW, Below.heap_setCell _ _ _ _ (by simpa using hbQ)]
    exact bA.block b hb
  have HE : Hid (W.os = w.os ∧ W.tape = w.tape ∧ W.output = w.output ∧ w.heap.size + 1 ≤ W.heap.size) := by
    rw [← hW]
    exact ⟨bA.os, bA.tape, bA.output, by simp⟩
  have hS0 : (fun y : World => y.cell? ⟨Q, 0, none⟩ = some (.slice (some ⟨g, 0, none⟩) len cv) ∧ y.cell? ⟨Q, 1, none⟩ = some (.int .i64 ((k : Int) + 1)) ∧ y.cell? ⟨g, k * 2, none⟩ = some (.int .i64 d) ∧ y.cell? ⟨g, k * 2 + 1, none⟩ = some (.int .i64 v)) W.drew := by
    refine ⟨HQA.out.cell (i := 0) (by omega), ?_, ?_, ?_⟩
    · have := HQA.out.cell (i := 1) (by omega)
      simpa [q2] using this
    · show W.cell? _ = _
      rw [← hW, World.cell?_of_block (Below.heap_setCell _ _ _ _ (by simp; omega))]
      exact (bA.cell (p := ⟨g, k * 2, none⟩) hgl).trans c2
    · show W.cell? _ = _
      rw [← hW, World.cell?_of_block (Below.heap_setCell _ _ _ _ (by simp; omega))]
      exact (bA.cell (p := ⟨g, k * 2 + 1, none⟩) hgl).trans c3
  rw [hW]
  have r0 := HR.out.cell (i := 0) (by omega)
  have r1 := HR.out.cell (i := 1) (by omega)
  have rf := HR.out.frozen
  clear hW bA c0 c1 c2 c3 cf HH
  refine wp_region_any (by kernel_rfl) (wpAnyU.any (S := (fun y : World => y.cell? ⟨Q, 0, none⟩ = some (.slice (some ⟨g, 0, none⟩) len cv) ∧ y.cell? ⟨Q, 1, none⟩ = some (.int .i64 ((k : Int) + 1)) ∧ y.cell? ⟨g, k * 2, none⟩ = some (.int .i64 d) ∧ y.cell? ⟨g, k * 2 + 1, none⟩ = some (.int .i64 v))) (m := 12) _ _ _ _ ?_)
  change wpAnyU _ _ _ _ _ _ 13 _ _ W.drew
  refine wpAnyU_take (i := 0) (v := .pointer (some ⟨Q, 0, none⟩)) rfl (by kernel_rfl) (by kernel_rfl) (by kernel_rfl) (by kernel_rfl) (fun _ _ _ h => h) (Or.inl ⟨by rfl, fun y hy => ?_⟩) hS0 ?_
  · obtain ⟨k0, k1, k2, k3⟩ := hy
    go_simp
  refine wpAnyU_take (i := 1) (v := .pointer (some ⟨Q, 0, none⟩)) rfl (by kernel_rfl) (by kernel_rfl) (by kernel_rfl) (by kernel_rfl) (fun _ _ _ h => h) (Or.inl ⟨by rfl, fun y hy => ?_⟩) hS0 ?_
  · obtain ⟨k0, k1, k2, k3⟩ := hy
    go_simp
  refine wpAnyU_take (i := 2) (v := .pointer (some ⟨Q, 0, none⟩)) rfl (by kernel_rfl) (by kernel_rfl) (by kernel_rfl) (by kernel_rfl) (fun _ _ _ h => h) (Or.inl ⟨by rfl, fun y hy => ?_⟩) hS0 ?_
  · obtain ⟨k0, k1, k2, k3⟩ := hy
    go_simp
  refine wpAnyU_take (i := 3) (v := .slice (some ⟨g, 0, none⟩) len cv) rfl (by kernel_rfl) (by kernel_rfl) (by kernel_rfl) (by kernel_rfl) (fun _ _ _ h => h) (Or.inl ⟨by rfl, fun y hy => ?_⟩) hS0 ?_
  · obtain ⟨k0, k1, k2, k3⟩ := hy
    go_simp
  refine wpAnyU_take (i := 4) (v := .pointer (some ⟨Q, 0, none⟩)) rfl (by kernel_rfl) (by kernel_rfl) (by kernel_rfl) (by kernel_rfl) (fun _ _ _ h => h) (Or.inl ⟨by rfl, fun y hy => ?_⟩) hS0 ?_
  · obtain ⟨k0, k1, k2, k3⟩ := hy
    go_simp
  refine wpAnyU_take (i := 5) (v := .pointer (some ⟨Q, 0, none⟩)) rfl (by kernel_rfl) (by kernel_rfl) (by kernel_rfl) (by kernel_rfl) (fun _ _ _ h => h) (Or.inl ⟨by rfl, fun y hy => ?_⟩) hS0 ?_
  · obtain ⟨k0, k1, k2, k3⟩ := hy
    go_simp
  refine wpAnyU_take (i := 6) (v := .pointer (some ⟨Q, 1, none⟩)) rfl (by kernel_rfl) (by kernel_rfl) (by kernel_rfl) (by kernel_rfl) (fun _ _ _ h => h) (Or.inl ⟨by rfl, fun y hy => ?_⟩) hS0 ?_
  · obtain ⟨k0, k1, k2, k3⟩ := hy
    go_simp
  refine wpAnyU_take (i := 7) (v := .int .i64 ((k : Int) + 1)) rfl (by kernel_rfl) (by kernel_rfl) (by kernel_rfl) (by kernel_rfl) (fun _ _ _ h => h) (Or.inl ⟨by rfl, fun y hy => ?_⟩) hS0 ?_
  · obtain ⟨k0, k1, k2, k3⟩ := hy
    go_simp
  refine wpAnyU_take (i := 8) (v := .int .i64 (k : Int)) rfl (by kernel_rfl) (by kernel_rfl) (by kernel_rfl) (by kernel_rfl) (fun _ _ _ h => h) (Or.inl ⟨by rfl, fun y hy => ?_⟩) hS0 ?_
  · obtain ⟨k0, k1, k2, k3⟩ := hy
    go_simp
    exact wrapIn (by omega) (by omega)
  refine wpAnyU_take (i := 9) (v := .pointer (some ⟨g, k * 2, none⟩)) rfl (by kernel_rfl) (by kernel_rfl) (by kernel_rfl) (by kernel_rfl) (fun _ _ _ h => h) (Or.inl ⟨by rfl, fun y hy => ?_⟩) hS0 ?_
  · obtain ⟨k0, k1, k2, k3⟩ := hy
    go_simp
  refine wpAnyU_take (i := 10) (v := .agg #[.int .i64 d, .int .i64 v]) rfl (by kernel_rfl) (by kernel_rfl) (by kernel_rfl) (by kernel_rfl) (fun _ _ _ h => h) (Or.inl ⟨by rfl, fun y hy => ?_⟩) hS0 ?_
  · obtain ⟨k0, k1, k2, k3⟩ := hy
    go_simp
  refine wpAnyU_one (i := 11) rfl (by kernel_rfl) (fun K hK => ?_)
  go_simp
  have hS1 : (fun y : World => y.cell? ⟨Q, 0, none⟩ = some (.slice (some ⟨g, 0, none⟩) len cv) ∧ y.cell? ⟨Q, 1, none⟩ = some (.int .i64 ((k : Int) + 1)) ∧ y.cell? ⟨g, k * 2, none⟩ = some (.int .i64 d) ∧ y.cell? ⟨g, k * 2 + 1, none⟩ = some (.int .i64 v)) ((W.setCell ⟨w.heap.size, 0, none⟩ (.int .i64 d)).setCell ⟨w.heap.size, 1, none⟩ (.int .i64 v)).drew := by
    obtain ⟨k0, k1, k2, k3⟩ := hS0
    refine ⟨?_, ?_, ?_, ?_⟩ <;> (show World.cell? (World.setCell _ _ _) _ = _; rw [World.cell?_of_block (Below.heap_setCell _ _ _ _ (by simp; omega)), World.cell?_of_block (Below.heap_setCell _ _ _ _ (by simp; omega))]; assumption)
  refine hK _ _ (Or.inr hS1) ?_
  clear hK K
  refine wpAnyU_one (i := 12) rfl (by kernel_rfl) (fun K hK => ?_)
  go_simp
  refine hK _ _ (Or.inl rfl) ?_
  clear hK K
  refine wpAnyU_done (by kernel_rfl) ?_ _
  go_wp2
  refine bodyPost_ret (v := .tuple #[.agg #[.int .i64 d, .int .i64 v], .bool true]) (by simp [results, Try.results111, go_sem, *]) rfl ⟨rfl, ⟨?_, ?_⟩, ?_⟩
  · exact World.rowIs.setOther (World.rowIs.setOther HQA.out (by simp; omega) _) (by simp; omega) _
  · obtain ⟨o1, o2⟩ := HOA.out
    refine ⟨o1, ?_⟩
    rcases o2 with o2 | ⟨g', cap, cur, e, h3, h4, h5⟩
    · exact Or.inl o2
    · cases e
      exact Or.inr ⟨g, cv, cur, rfl, h3, (Below.heap_setCell _ _ _ _ (by simp; omega)).trans ((Below.heap_setCell _ _ _ _ (by simp; omega)).trans h4), h5⟩
  · refine ⟨HE.out.1, HE.out.2.1, HE.out.2.2.1, by have := HE.out.2.2.2; simp; omega, fun b hb hbQ _ => ?_⟩
    have e1 := Below.heap_setCell (W.setCell ⟨w.heap.size, 0, none⟩ (.int .i64 d)) ⟨w.heap.size, 1, none⟩ (.int .i64 v) b (by simp; omega)
    have e2 := Below.heap_setCell W ⟨w.heap.size, 0, none⟩ (.int .i64 d) b (by simp; omega)
    exact e1.trans (e2.trans (HB.out b hb hbQ))

end Go.Proofs.Yteodefmpkljedaa
