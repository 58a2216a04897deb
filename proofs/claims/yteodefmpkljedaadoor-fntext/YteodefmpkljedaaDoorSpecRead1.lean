/-
  The model's reader: a word that must come.
-/
import Derived.Test.YteodefmpkljedaaDoorProg
import Derived.Test.YteodefmpkljedaaDoorTextSteps
import Derived.Test.YteodefmpkljedaaDoorGrow
namespace Go.Proofs.YteodefmpkljedaaDoor
open Go.RowKit Go.Sort Go.Shelf
set_option linter.unusedVariables false
set_option linter.unusedSimpArgs false

/-- The reader's three cells. -/
def rdCells (t : List UInt8) (i b : Int) (k : Nat) : Value := if k = 0 then .string ⟨t.toArray⟩ else if k = 1 then .int .i64 i else .int .i64 b
def RdAt (w : World) (R : Nat) (t : List UInt8) (i b : Int) : Prop := w.rowIs R 60 3 (rdCells t i b)
theorem RdAt.at_ {w : World} {R : Nat} {t : List UInt8} {i b : Int} (h : RdAt w R t i b) (n : Nat) (j : Int) : RdAt ((w.drewN n).setCell ⟨R, 1, none⟩ (.int .i64 j)) R t j b := by
  have h1 : (w.drewN n).rowIs R 60 3 (rdCells t i b) := h.of_block rfl
  refine (h1.set 1 (.int .i64 j)).congr fun k hk => ?_
  unfold rdCells
  match k, hk with
  | 0, _ => rfl
  | 1, _ => rfl
  | 2, _ => rfl
theorem RdAt.bad_ {w : World} {R : Nat} {t : List UInt8} {i b : Int} (h : RdAt w R t i b) (n : Nat) (j : Int) : RdAt ((w.drewN n).setCell ⟨R, 2, none⟩ (.int .i64 j)) R t i j := by
  have h1 : (w.drewN n).rowIs R 60 3 (rdCells t i b) := h.of_block rfl
  refine (h1.set 2 (.int .i64 j)).congr fun k hk => ?_
  unfold rdCells
  match k, hk with
  | 0, _ => rfl
  | 1, _ => rfl
  | 2, _ => rfl
theorem RdAt.c0 {w : World} {R : Nat} {t : List UInt8} {i b : Int} (h : RdAt w R t i b) : w.cell? ⟨R, 0, none⟩ = some (.string ⟨t.toArray⟩) := h.cell (i := 0) (by omega)
theorem RdAt.c1 {w : World} {R : Nat} {t : List UInt8} {i b : Int} (h : RdAt w R t i b) : w.cell? ⟨R, 1, none⟩ = some (.int .i64 i) := h.cell (i := 1) (by omega)
theorem RdAt.c2 {w : World} {R : Nat} {t : List UInt8} {i b : Int} (h : RdAt w R t i b) : w.cell? ⟨R, 2, none⟩ = some (.int .i64 b) := h.cell (i := 2) (by omega)

theorem idx_str (t : List UInt8) (p : Nat) (c : UInt8) (w : World) (h : t[p]? = some c) : (Instr.index 9 (.string ⟨t.toArray⟩) (.int .i64 p)).run Tryd.prog w = .ok (.int .u8 (c.toNat : Int)) w := by
  have hp : p < t.length := by
    rcases Nat.lt_or_ge p t.length with q | q
    · exact q
    · rw [List.getElem?_eq_none q] at h; cases h
  have hs : (⟨t.toArray⟩ : ByteArray).size = t.length := by show t.toArray.size = _; simp
  rw [run_index_string w 9 _ _ _ Tryd.underlying9, dif_pos ⟨by omega, by omega⟩]
  have e : (⟨t.toArray⟩ : ByteArray)[((p : Int)).toNat]'(by omega) = c := by
    rw [List.getElem?_eq_getElem hp] at h
    simpa [ByteArray.getElem_eq_getElem_data] using Option.some.inj h
  rw [e]
theorem alike_step {t s : List UInt8} {p j : Nat} {c d : UInt8} (h1 : t[p]? = some c) (h2 : s[j]? = some d) : alikeN (t.drop p) (s.drop j) = if c = d then alikeN (t.drop (p + 1)) (s.drop (j + 1)) + 1 else 0 := by
  have g1 : t.drop p = c :: t.drop (p + 1) := by
    have hp : p < t.length := by
      rcases Nat.lt_or_ge p t.length with q | q
      · exact q
      · rw [List.getElem?_eq_none q] at h1; cases h1
    rw [List.getElem?_eq_getElem hp] at h1
    rw [List.drop_eq_getElem_cons hp, Option.some.inj h1]
  have g2 : s.drop j = d :: s.drop (j + 1) := by
    have hp : j < s.length := by
      rcases Nat.lt_or_ge j s.length with q | q
      · exact q
      · rw [List.getElem?_eq_none q] at h2; cases h2
    rw [List.getElem?_eq_getElem hp] at h2
    rw [List.drop_eq_getElem_cons hp, Option.some.inj h2]
  rw [g1, g2]
  rfl
theorem alike_end_l {t : List UInt8} {p : Nat} (h : p = t.length) (s : List UInt8) : alikeN (t.drop p) s = 0 := by
  rw [List.drop_of_length_le (by omega)]
  rfl
theorem alike_end_r {s : List UInt8} {j : Nat} (h : j = s.length) (t : List UInt8) : alikeN t (s.drop j) = 0 := by
  rw [List.drop_of_length_le (by omega)]
  cases t <;> rfl
theorem get_of {t : List UInt8} {p : Nat} (h : p < t.length) : ∃ c, t[p]? = some c := ⟨t[p], List.getElem?_eq_getElem h⟩

set_option maxHeartbeats 1000000 in
theorem must_any (t s : List UInt8) (R i : Nat) (w : World) (h : RdAt w R t i (-1)) (hi : i ≤ t.length) (ht : t.length ≤ 3000) (hs : s.length ≤ 10) :
    Calls Tryd.prog 23 #[.pointer (some ⟨R, 0, none⟩), .string ⟨s.toArray⟩] w fun e w' => e = .returned (.tuple #[]) ∧ ((alikeN (t.drop i) s = s.length ∧ RdAt w' R t ((i + s.length : Nat) : Int) (-1)) ∨ (alikeN (t.drop i) s < s.length ∧ RdAt w' R t ((i + alikeN (t.drop i) s : Nat) : Int) ((i + alikeN (t.drop i) s : Nat) : Int))) ∧ w.grownBy w' (some R) := by
  have HR : Hid (RdAt w R t i (-1)) := h
  clear h
  go_enter Tryd.func23, Tryd.ntmps23
  go_wp2_with fail
  go_loopw [4] (fun sj wr => ∃ j p : Nat, j ≤ s.length ∧ sj = .int .i64 j ∧ p ≤ t.length ∧ Hid (p = i + j) ∧ Hid (j + alikeN (t.drop p) (s.drop j) = alikeN (t.drop i) s) ∧ Hid (RdAt wr R t (p : Int) (-1)) ∧ Hid (w.grownBy wr (some R))) (fun sj _ => s.length - (intOf sj).toNat)
  case atStart => exact ⟨0, i, Nat.zero_le _, rfl, hi, rfl, by show _ = _; simp, HR.out, World.grownBy.refl _ _⟩
  case round =>
    obtain ⟨j, p, hj, rfl, hp, HP, HA, HQ, HG⟩ := hrel
    have c0 := HQ.out.c0
    have c1 := HQ.out.c1
    have c2 := HQ.out.c2
    have f1 := HQ.out.frozen 1
    have f2 := HQ.out.frozen 2
    by_cases hlt : j < s.length
    · have hjI : (j : Int) < (s.length : Int) := by omega
      by_cases hend : p = t.length
      · have hE : ((p : Int) == (t.length : Int)) = true := by simp; omega
        have HAL : Hid (alikeN (t.drop i) s = j) := by have := HA.out; rw [alike_end_l hend] at this; exact this.symm
        clear hend hi
        go_wp2_with fail
        go_quiet (fail)
        go_wp2
        refine bodyPost_ret (results_none (by kernel_rfl) _ _ _) rfl ⟨rfl, Or.inr ?_, ?_⟩
        · rw [HAL.out, ← HP.out]
          exact ⟨hlt, HQ.out.bad_ _ _⟩
        · exact grown_tr (grown_tr HG.out (grown_drawn _ _ _)) (grown_set _ _ _ _)
      · have hE : ((p : Int) == (t.length : Int)) = false := by simp; omega
        obtain ⟨c, hc⟩ := get_of (t := t) (p := p) (by omega)
        obtain ⟨d, hd⟩ := get_of hlt
        have x1 : ∀ w : World, (Instr.index 9 (.string ⟨t.toArray⟩) (.int .i64 p)).run Tryd.prog w = .ok (.int .u8 (c.toNat : Int)) w := fun w => idx_str t p c w hc
        have x2 : ∀ w : World, (Instr.index 9 (.string ⟨s.toArray⟩) (.int .i64 j)).run Tryd.prog w = .ok (.int .u8 (d.toNat : Int)) w := fun w => idx_str s j d w hd
        have HST := HA.out
        rw [alike_step hc hd] at HST
        by_cases hcd : c = d
        · subst hcd
          rw [if_pos rfl] at HST
          have hne : ((c.toNat : Int) != (c.toNat : Int)) = false := by simp
          have HAL : Hid (j + 1 + alikeN (t.drop (p + 1)) (s.drop (j + 1)) = alikeN (t.drop i) s) := by show _ = _; omega
          clear HST hc hd hi
          go_wp2_with fail
          go_quiet (fail)
          go_wp2
          go_roundw
          case rel => exact ⟨j + 1, p + 1, by omega, by go_num, by omega, by have := HP.out; show _ = _; omega, HAL.out, HQ.out.at_ _ _, grown_tr (grown_tr HG.out (grown_drawn _ _ _)) (grown_set _ _ _ _)⟩
          case measure => simp [intOf]; omega
        · have hne : ((c.toNat : Int) != (d.toNat : Int)) = true := by
            simp
            intro e
            exact hcd (UInt8.toNat_inj.1 (by omega))
          rw [if_neg hcd] at HST
          have HAL : Hid (alikeN (t.drop i) s = j) := HST.symm
          clear HST hc hd hi hend
          go_wp2_with fail
          go_quiet (fail)
          go_wp2
          refine bodyPost_ret (results_none (by kernel_rfl) _ _ _) rfl ⟨rfl, Or.inr ?_, ?_⟩
          · rw [HAL.out, ← HP.out]
            exact ⟨hlt, HQ.out.bad_ _ _⟩
          · exact grown_tr (grown_tr HG.out (grown_drawn _ _ _)) (grown_set _ _ _ _)
    · have hnl : decide ((j : Int) < (s.length : Int)) = false := by simp; omega
      have ej : j = s.length := by omega
      have HAL : Hid (alikeN (t.drop i) s = s.length) := by have := HA.out; rw [alike_end_r ej] at this; show _ = _; omega
      go_wp2
      refine bodyPost_end (results_none (by kernel_rfl) _ _ _) rfl ⟨rfl, Or.inl ⟨HAL.out, ?_⟩, HG.out⟩
      rw [← ej, ← HP.out]
      exact HQ.out

end Go.Proofs.YteodefmpkljedaaDoor
