/-
  A row of bytes that came in, read by wByte: some byte.
  wByte, at one row and one place: one byte, in whatever world holds the row.
-/
import Derived.Test.YteodefmpkljedaaSpecSlow
import Derived.WalkKit
import Derived.OpenShut
namespace Go.Proofs.Yteodefmpkljedaa
open Go.RowKit

/-- A row of bytes: empty, or a row of cells. -/
def RowOk (w : World) (a : Option Addr) (len : Nat) : Prop :=
  len ≤ maxLen ∧ (len = 0 ∨ ∃ b off, ∃ zs : List Int, a = some ⟨b, off, none⟩ ∧ b < w.heap.size ∧ len ≤ zs.length ∧ (∀ j, j < zs.length → w.cell? ⟨b, off + j, none⟩ = some (.int .u8 (zs.getD j 0))) ∧ ∀ n ∈ zs, (Lit.int .u8 n).wf = true)

theorem RowOk.below {w w1 : World} {a : Option Addr} {len : Nat} (h : RowOk w a len) (hb : Below w.heap.size w w1) : RowOk w1 a len := by
  obtain ⟨h1, h2⟩ := h
  refine ⟨h1, ?_⟩
  rcases h2 with h2 | ⟨b, off, zs, rfl, hlt, hl, hc, hw⟩
  · exact Or.inl h2
  · exact Or.inr ⟨b, off, zs, rfl, Nat.lt_of_lt_of_le hlt hb.size, hl, fun j hj => by rw [hb.cell hlt]; exact hc j hj, hw⟩

set_option maxHeartbeats 400000 in
theorem wByte_any (a : Option Addr) (len cap : Nat) (i : Int) (w : World) (h : RowOk w a len) (hi : 0 ≤ i) (hi' : i ≤ 1000) :
    Calls Try.prog 20 #[.slice a len cap, .int .i64 i] w fun e w' => ∃ y : Int, e = .returned (.int .i64 y) ∧ 0 ≤ y ∧ y ≤ 255 ∧ w' = w := by
  obtain ⟨hm, h2⟩ := h
  unfold maxLen at hm
  by_cases hz : len = 0
  · subst hz
    clear h2 hm
    go_enter Try.func20, Try.ntmps20
    go_wp2
    go_ret
    exact ⟨0, rfl, by omega, by omega, rfl⟩
  · rcases h2 with h2 | ⟨b, off, zs, rfl, hlt, hl, hc, hw⟩
    · exact absurd h2 hz
    · have k0 : 0 ≤ i % (len : Int) := Int.emod_nonneg _ (by omega)
      have k1 : i % (len : Int) < (len : Int) := Int.emod_lt_of_pos _ (by omega)
      obtain ⟨n, rfl⟩ : ∃ n : Nat, i = (n : Int) := ⟨i.toNat, by omega⟩
      have hj : n % len < zs.length := Nat.lt_of_lt_of_le (Nat.mod_lt _ (by omega)) hl
      have hcell := hc (n % len) hj
      have hy : 0 ≤ zs.getD (n % len) 0 ∧ zs.getD (n % len) 0 ≤ 255 := by
        have := hw _ (List.getElem_mem hj)
        have e : zs.getD (n % len) 0 = zs[n % len] := by simp [List.getD, hj]
        rw [e]
        have := Go.bounds_u8 this
        omega
      clear hw hc
      generalize zs.getD (n % len) 0 = y at *
      go_enter Try.func20, Try.ntmps20
      go_wp2
      go_ret
      exact ⟨y, rfl, hy.1, hy.2, rfl⟩

end Go.Proofs.Yteodefmpkljedaa

namespace Go.Proofs.Yteodefmpkljedaa
open Go.RowKit

set_option maxHeartbeats 800000 in
theorem wByte_one {w : World} {a : Option Addr} {len : Nat} (h : RowOk w a len) (i : Int) (hi : 0 ≤ i) (hi' : i ≤ 1000) (cap : Nat) :
    ∃ y : Int, 0 ≤ y ∧ y ≤ 255 ∧ ∀ w1, Below w.heap.size w w1 → Calls Try.prog 20 #[.slice a len cap, .int .i64 i] w1 fun e w' => e = .returned (.int .i64 y) ∧ w' = w1 := by
  obtain ⟨hm, h2⟩ := h
  unfold maxLen at hm
  by_cases hz : len = 0
  · subst hz
    clear h2 hm
    refine ⟨0, by omega, by omega, fun w1 _ => ?_⟩
    go_enter Try.func20, Try.ntmps20
    go_wp2
    go_ret
    exact ⟨rfl, rfl⟩
  · rcases h2 with h2 | ⟨b, off, zs, rfl, hlt, hl, hc, hw⟩
    · exact absurd h2 hz
    · have k0 : 0 ≤ i % (len : Int) := Int.emod_nonneg _ (by omega)
      have k1 : i % (len : Int) < (len : Int) := Int.emod_lt_of_pos _ (by omega)
      obtain ⟨n, rfl⟩ : ∃ n : Nat, i = (n : Int) := ⟨i.toNat, by omega⟩
      have hj : n % len < zs.length := Nat.lt_of_lt_of_le (Nat.mod_lt _ (by omega)) hl
      have hy : 0 ≤ zs.getD (n % len) 0 ∧ zs.getD (n % len) 0 ≤ 255 := by
        have := hw _ (List.getElem_mem hj)
        have e : zs.getD (n % len) 0 = zs[n % len] := by simp [List.getD, hj]
        rw [e]
        have := Go.bounds_u8 this
        omega
      refine ⟨zs.getD (n % len) 0, hy.1, hy.2, fun w1 hb => ?_⟩
      have hcell : w1.cell? ⟨b, off + n % len, none⟩ = some (.int .u8 (zs.getD (n % len) 0)) := by rw [hb.cell hlt]; exact hc (n % len) hj
      clear hw hc hb
      generalize zs.getD (n % len) 0 = y at *
      go_enter Try.func20, Try.ntmps20
      go_wp2
      go_ret
      exact ⟨rfl, rfl⟩

end Go.Proofs.Yteodefmpkljedaa
