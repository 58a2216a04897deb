/-
  The laws' marks: every number of an answer or an argument written over, and found again.
-/
import Derived.Test.YteodefmpkljedacDoorLawEq
import Derived.Test.YteodefmpkljedacDoorOwnRow
import Derived.Deep.Heap
namespace Go.Proofs.YteodefmpkljedacDoor
open Go.RowKit Go.Sort
set_option linter.unusedVariables false
set_option linter.unusedSimpArgs false

theorem mark_set (w : World) (B i : Nat) (v : Value) : w.grownBy (w.setCell ⟨B, i, none⟩ v) (some B) := by
  refine ⟨rfl, rfl, rfl, by simp, fun k hk hne => ?_⟩
  have hne' : k ≠ B := fun e => hne (by rw [e])
  exact Go.Deep.blk_setCell_other w ⟨B, i, none⟩ v k hne'
theorem mark_tr {a b c : World} {row : Option Nat} (h : a.grownBy b row) (k : b.grownBy c row) : a.grownBy c row :=
  ⟨k.os.trans h.os, k.tape.trans h.tape, k.output.trans h.output, Nat.le_trans h.size k.size, fun i hi hne => (k.block i (Nat.lt_of_lt_of_le hi h.size) hne).trans (h.block i hi hne)⟩
/-- A row of m cells in block g, of which the slice has n parts of s cells. -/
def MRow (w : World) (a : Option Addr) (n s g t m : Nat) : Prop := n = 0 ∨ (a = some ⟨g, 0, none⟩ ∧ n * s ≤ m ∧ ∃ f, w.rowIs g t m f)
/-- It is marked from k on. -/
def Marked (w : World) (a : Option Addr) (n s g t m : Nat) (k : Int) : Prop := n = 0 ∨ (a = some ⟨g, 0, none⟩ ∧ n * s ≤ m ∧ ∃ f, w.rowIs g t m f ∧ ∀ i, i < n * s → f i = .int .i64 (k + i))
theorem MRow.grown {w w1 : World} {row : Option Nat} {a : Option Addr} {n s g t m : Nat} (h : MRow w a n s g t m) (hg : w.grownBy w1 row) (hr : some g ≠ row) : MRow w1 a n s g t m := by
  rcases h with h | ⟨h1, h2, f, h3⟩
  · exact Or.inl h
  · exact Or.inr ⟨h1, h2, f, h3.of_block (hg.block g h3.lt hr)⟩
theorem Marked.grown {w w1 : World} {row : Option Nat} {a : Option Addr} {n s g t m : Nat} {k : Int} (h : Marked w a n s g t m k) (hg : w.grownBy w1 row) (hr : some g ≠ row) : Marked w1 a n s g t m k := by
  rcases h with h | ⟨h1, h2, f, h3, h4⟩
  · exact Or.inl h
  · exact Or.inr ⟨h1, h2, f, h3.of_block (hg.block g h3.lt hr), h4⟩
theorem Marked.below {w w1 : World} {a : Option Addr} {n s g t m : Nat} {k : Int} (h : Marked w a n s g t m k) (hb : Below w.heap.size w w1) : Marked w1 a n s g t m k := by
  rcases h with h | ⟨h1, h2, f, h3, h4⟩
  · exact Or.inl h
  · exact Or.inr ⟨h1, h2, f, rowIs_below h3 hb, h4⟩
/-- What is owned can be marked. -/
theorem mrow_owned {w : World} {base e size n : Nat} {v : Value} {xs : List Value} (h : w.ownsRow base e size v n xs) : ∃ a cap g m, v = .slice a n cap ∧ MRow w a n size g e m ∧ (n = 0 ∨ base ≤ g) ∧ ∀ j, v.ownBlock = some j → n = 0 ∨ j = g := by
  rcases h.2 with ⟨rfl, rfl⟩ | ⟨g, cap, cur, rfl, hb, hh, hc, hm, hs, ht⟩
  · exact ⟨none, 0, 0, 0, rfl, Or.inl rfl, Or.inl rfl, fun j hj => by cases hj⟩
  · refine ⟨_, cap, g, cur.size, rfl, Or.inr ⟨rfl, by rw [hs]; exact Nat.mul_le_mul_right _ hc, fun i => cur[i]!, ?_⟩, Or.inr hb, fun j hj => Or.inr (by simp [Value.ownBlock] at hj; exact hj.symm)⟩
    exact ⟨cur, hh, rfl, fun i hi => by simp [hi]⟩

set_option maxHeartbeats 2000000 in
theorem markPieceS_any (a : Option Addr) (n cap g t m : Nat) (q : Int) (w : World) (hr : MRow w a n 2 g t m) (hn : n ≤ 100000000) (hq : 0 ≤ q) (hq' : q ≤ 1000000000) :
    Calls Tryd.prog 29 #[.slice a n cap, .int .i64 q] w fun e w' => e = .returned (.int .i64 (q + n * 2)) ∧ Marked w' a n 2 g t m q ∧ w.grownBy w' (some g) := by
  have HR : Hid (MRow w a n 2 g t m) := hr
  clear hr
  go_enter Tryd.func29, Tryd.ntmps29
  go_wp2
  go_loopw [1, 5] (fun sk i wr => ∃ k : Nat, k ≤ n ∧ i = .int .i64 k ∧ sk = .int .i64 (q + k * 2) ∧ Hid (n = 0 ∨ (a = some ⟨g, 0, none⟩ ∧ n * 2 ≤ m ∧ ∃ f, wr.rowIs g t m f ∧ ∀ i, i < k * 2 → f i = .int .i64 (q + i))) ∧ Hid (w.grownBy wr (some g))) (fun _ i _ => n - (intOf i).toNat)
  case atStart =>
    refine ⟨0, Nat.zero_le _, rfl, by simp, ?_, World.grownBy.refl _ _⟩
    show _ ∨ _
    rcases HR.out with h | ⟨h1, h2, f, h3⟩
    · exact Or.inl h
    · exact Or.inr ⟨h1, h2, f, h3, fun i hi => by omega⟩
  case round =>
    obtain ⟨k, hk, rfl, rfl, HF, HG⟩ := hrel
    by_cases hlt : k < n
    · rcases HF.out with h0 | ⟨rfl, hm, f, hrow, hf⟩
      · omega
      · have HROW : Hid (wr.rowIs g t m f ∧ ∀ i, i < k * 2 → f i = .int .i64 (q + i)) := ⟨hrow, hf⟩
        have d0 := hrow.cell (i := k * 2) (by omega)
        have f0 := hrow.frozen (k * 2)
        have d1 := hrow.cell (i := k * 2 + 1) (by omega)
        have f1 := hrow.frozen (k * 2 + 1)
        clear hrow hf HF
        go_wp2
        go_roundw
        case rel =>
          refine ⟨k + 1, by omega, by go_num, by go_num, ?_, mark_tr (mark_tr (HG.out) (mark_set _ _ _ _)) (mark_set _ _ _ _)⟩
          show _ ∨ _
          refine Or.inr ⟨by first | rfl | trivial, hm, _, ((HROW.out.1).set _ _).set _ _, fun i hi => ?_⟩
          have hcs : i < k * 2 ∨ i = k * 2 ∨ i = k * 2 + 1 := by omega
          rcases hcs with hcs | rfl | rfl
          · have := HROW.out.2 i hcs
            simp [this, show ¬ (i = k * 2) from by omega, show ¬ (i = k * 2 + 1) from by omega]
          all_goals (simp <;> first | omega | (congr 1; omega))
        case measure => simp [intOf]; omega
    · have e : k = n := by omega
      subst e
      go_wp2
      go_ret
      refine ⟨ret_int rfl, ?_, HG.out⟩
      rcases HF.out with h0 | h
      · exact Or.inl h0
      · exact Or.inr h

set_option maxHeartbeats 2000000 in
theorem markZoneS_any (a : Option Addr) (n cap g t m : Nat) (q : Int) (w : World) (hr : MRow w a n 3 g t m) (hn : n ≤ 100000000) (hq : 0 ≤ q) (hq' : q ≤ 1000000000) :
    Calls Tryd.prog 30 #[.slice a n cap, .int .i64 q] w fun e w' => e = .returned (.int .i64 (q + n * 3)) ∧ Marked w' a n 3 g t m q ∧ w.grownBy w' (some g) := by
  have HR : Hid (MRow w a n 3 g t m) := hr
  clear hr
  go_enter Tryd.func30, Tryd.ntmps30
  go_wp2
  go_loopw [1, 5] (fun sk i wr => ∃ k : Nat, k ≤ n ∧ i = .int .i64 k ∧ sk = .int .i64 (q + k * 3) ∧ Hid (n = 0 ∨ (a = some ⟨g, 0, none⟩ ∧ n * 3 ≤ m ∧ ∃ f, wr.rowIs g t m f ∧ ∀ i, i < k * 3 → f i = .int .i64 (q + i))) ∧ Hid (w.grownBy wr (some g))) (fun _ i _ => n - (intOf i).toNat)
  case atStart =>
    refine ⟨0, Nat.zero_le _, rfl, by simp, ?_, World.grownBy.refl _ _⟩
    show _ ∨ _
    rcases HR.out with h | ⟨h1, h2, f, h3⟩
    · exact Or.inl h
    · exact Or.inr ⟨h1, h2, f, h3, fun i hi => by omega⟩
  case round =>
    obtain ⟨k, hk, rfl, rfl, HF, HG⟩ := hrel
    by_cases hlt : k < n
    · rcases HF.out with h0 | ⟨rfl, hm, f, hrow, hf⟩
      · omega
      · have HROW : Hid (wr.rowIs g t m f ∧ ∀ i, i < k * 3 → f i = .int .i64 (q + i)) := ⟨hrow, hf⟩
        have d0 := hrow.cell (i := k * 3) (by omega)
        have f0 := hrow.frozen (k * 3)
        have d1 := hrow.cell (i := k * 3 + 1) (by omega)
        have f1 := hrow.frozen (k * 3 + 1)
        have d2 := hrow.cell (i := k * 3 + 2) (by omega)
        have f2 := hrow.frozen (k * 3 + 2)
        clear hrow hf HF
        go_wp2
        go_roundw
        case rel =>
          refine ⟨k + 1, by omega, by go_num, by go_num, ?_, mark_tr (mark_tr (mark_tr (HG.out) (mark_set _ _ _ _)) (mark_set _ _ _ _)) (mark_set _ _ _ _)⟩
          show _ ∨ _
          refine Or.inr ⟨by first | rfl | trivial, hm, _, (((HROW.out.1).set _ _).set _ _).set _ _, fun i hi => ?_⟩
          have hcs : i < k * 3 ∨ i = k * 3 ∨ i = k * 3 + 1 ∨ i = k * 3 + 2 := by omega
          rcases hcs with hcs | rfl | rfl | rfl
          · have := HROW.out.2 i hcs
            simp [this, show ¬ (i = k * 3) from by omega, show ¬ (i = k * 3 + 1) from by omega, show ¬ (i = k * 3 + 2) from by omega]
          all_goals (simp <;> first | omega | (congr 1; omega))
        case measure => simp [intOf]; omega
    · have e : k = n := by omega
      subst e
      go_wp2
      go_ret
      refine ⟨ret_int rfl, ?_, HG.out⟩
      rcases HF.out with h0 | h
      · exact Or.inl h0
      · exact Or.inr h

end Go.Proofs.YteodefmpkljedacDoor
