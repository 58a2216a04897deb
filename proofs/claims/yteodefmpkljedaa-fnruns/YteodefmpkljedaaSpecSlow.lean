/-
  The models' walks: slowing down tick by tick comes to the closed sum.
-/
import Derived.Test.YteodefmpkljedaaProg
import Derived.Test.YteodefmpkljedaaMath
import Derived.WalkKit
import Derived.KernelRfl
namespace Go.Proofs.Yteodefmpkljedaa
open Go.RowKit

theorem ret_int {k : IntKind} {a b : Int} (h : a = b) : Ending.returned (.int k a) = .returned (.int k b) := by rw [h]
theorem ret_two {a b c d : Int} (h : a = c) (g : b = d) : Ending.returned (.tuple #[.int .i64 a, .int .i64 b]) = .returned (.tuple #[.int .i64 c, .int .i64 d]) := by rw [h, g]

set_option maxHeartbeats 400000 in
theorem l1slow_any (v u b : Int) (w : World) (hv : 0 ≤ v) (hv' : v ≤ 10000) (hu : 0 ≤ u) (hu' : u ≤ 10000) (hb : 10 ≤ b) (hb' : b ≤ 1000) :
    Calls Try.prog 62 #[.int .i64 v, .int .i64 u, .int .i64 b] w fun e w' => e = .returned (.tuple #[.int .i64 (Slow.len v u b), .int .i64 (Slow.ticks v u b)]) ∧ w' = w := by
  go_enter Try.func62, Try.ntmps62
  go_wp2
  go_loop [0, 8, 9] (fun x f n => ∃ y far k : Int, x = .int .i64 y ∧ f = .int .i64 far ∧ n = .int .i64 k ∧ 0 ≤ y ∧ y ≤ v ∧ 0 ≤ k ∧ k ≤ v - y ∧ 0 ≤ far ∧ far ≤ 10000 * k ∧ Hid (far + Slow.len y u b = Slow.len v u b ∧ k + Slow.ticks y u b = Slow.ticks v u b)) (fun x _ _ => (intOf x).toNat)
  case atStart => exact ⟨v, 0, 0, rfl, rfl, rfl, by omega, by omega, by omega, by omega, by omega, by omega, ⟨by omega, by omega⟩⟩
  case round =>
    obtain ⟨y, far, k, rfl, rfl, rfl, hy, hyv, hk, hkv, hf, hfk, H⟩ := hrel
    by_cases hlt : u < y
    · have hs : Hid (Slow.len y u b = Slow.next y u b + Slow.len (Slow.next y u b) u b ∧ Slow.ticks y u b = 1 + Slow.ticks (Slow.next y u b) u b) := Slow.step hlt (by omega)
      by_cases hn : y - b < u
      · have hx : Hid (Slow.next y u b = u) := by show Slow.next y u b = u; unfold Slow.next; rw [if_pos hn]
        go_wp2
        go_round
        case rel => exact ⟨u, far + u, k + 1, rfl, rfl, rfl, by omega, by omega, by omega, by omega, by omega, by omega, by have h1 := H.out; have h2 := hs.out; rw [hx.out] at h2; exact ⟨by omega, by omega⟩⟩
        case measure => simp [intOf]; omega
      · have hx : Hid (Slow.next y u b = y - b) := by show Slow.next y u b = y - b; unfold Slow.next; rw [if_neg hn]
        go_wp2
        go_round
        case rel => exact ⟨y - b, far + (y - b), k + 1, rfl, rfl, rfl, by omega, by omega, by omega, by omega, by omega, by omega, by have h1 := H.out; have h2 := hs.out; rw [hx.out] at h2; exact ⟨by omega, by omega⟩⟩
        case measure => simp [intOf]; omega
    · go_wp2
      go_ret2
      have h1 := H.out
      obtain ⟨l0, t0⟩ := Slow.len_rest (v := y) (u := u) (b := b) (by omega)
      exact ⟨ret_two (by omega) (by omega), rfl⟩

/-- Two speeds and a brake. -/
def Right (v u b : Int) : Prop := 0 ≤ v ∧ v ≤ 10000 ∧ 0 ≤ u ∧ u ≤ 10000 ∧ 10 ≤ b ∧ b ≤ 1000
theorem l1in_yes (x a b : Int) (w : World) (h : a ≤ x) (g : x ≤ b) :
    Calls Try.prog 63 #[.int .i64 x, .int .i64 a, .int .i64 b] w fun e w' => e = .returned (.bool true) ∧ w' = w := by
  go_enter Try.func63, Try.ntmps63
  go_wp2
  go_ret
  exact ⟨by simp, rfl⟩

theorem l1in_no (x a b : Int) (w : World) (h : x < a ∨ b < x) :
    Calls Try.prog 63 #[.int .i64 x, .int .i64 a, .int .i64 b] w fun e w' => e = .returned (.bool false) ∧ w' = w := by
  by_cases g : a ≤ x
  · have g' : decide (x ≤ b) = false := by simp; omega
    clear h
    go_enter Try.func63, Try.ntmps63
    go_wp2
    go_ret
    exact ⟨by simp, rfl⟩
  · have g' : decide (a ≤ x) = false := by simpa using g
    clear h
    go_enter Try.func63, Try.ntmps63
    go_wp2
    go_ret
    exact ⟨by simp, rfl⟩

theorem l1speeds_yes (v u : Int) (w : World) (h1 : 0 ≤ v) (h2 : v ≤ 10000) (h3 : 0 ≤ u) (h4 : u ≤ 10000) :
    Calls Try.prog 60 #[.int .i64 v, .int .i64 u] w fun e w' => e = .returned (.bool true) ∧ w' = w := by
  go_enter Try.func60, Try.ntmps60
  go_wp2_with (go_at_call 63; refine (l1in_yes _ _ _ _ (by omega) (by omega)).mono ?_; rintro e w' ⟨rfl, rfl⟩)
  go_ret
  exact ⟨rfl, rfl⟩

theorem l1speeds_no (v u : Int) (w : World) (h : v < 0 ∨ 10000 < v ∨ u < 0 ∨ 10000 < u) :
    Calls Try.prog 60 #[.int .i64 v, .int .i64 u] w fun e w' => e = .returned (.bool false) ∧ w' = w := by
  by_cases g : 0 ≤ v ∧ v ≤ 10000
  · obtain ⟨g1, g2⟩ := g
    have h' : u < 0 ∨ 10000 < u := by omega
    clear h
    go_enter Try.func60, Try.ntmps60
    go_wp2_with (go_at_call 63; first | (refine (l1in_yes _ _ _ _ (by omega) (by omega)).mono ?_; rintro e w' ⟨rfl, rfl⟩) | (refine (l1in_no _ _ _ _ (by omega)).mono ?_; rintro e w' ⟨rfl, rfl⟩))
    go_ret
    exact ⟨rfl, rfl⟩
  · go_enter Try.func60, Try.ntmps60
    go_wp2_with (go_at_call 63; refine (l1in_no _ _ _ _ (by omega)).mono ?_; rintro e w' ⟨rfl, rfl⟩)
    go_ret
    exact ⟨rfl, rfl⟩

theorem l1brakes_yes (b : Int) (w : World) (h1 : 10 ≤ b) (h2 : b ≤ 1000) :
    Calls Try.prog 61 #[.int .i64 b] w fun e w' => e = .returned (.bool true) ∧ w' = w := by
  go_enter Try.func61, Try.ntmps61
  go_wp2_with (go_at_call 63; refine (l1in_yes _ _ _ _ (by omega) (by omega)).mono ?_; rintro e w' ⟨rfl, rfl⟩)
  go_ret
  exact ⟨rfl, rfl⟩

theorem l1brakes_no (b : Int) (w : World) (h : b < 10 ∨ 1000 < b) :
    Calls Try.prog 61 #[.int .i64 b] w fun e w' => e = .returned (.bool false) ∧ w' = w := by
  go_enter Try.func61, Try.ntmps61
  go_wp2_with (go_at_call 63; refine (l1in_no _ _ _ _ (by omega)).mono ?_; rintro e w' ⟨rfl, rfl⟩)
  go_ret
  exact ⟨rfl, rfl⟩

set_option maxHeartbeats 400000 in
theorem specSlowLen_right (v u b : Int) (w : World) (h : Right v u b) :
    Calls Try.prog 22 #[.int .i64 v, .int .i64 u, .int .i64 b] w fun e w' => e = .returned (.int .i64 (Slow.len v u b)) ∧ w' = w := by
  obtain ⟨hv, hv', hu, hu', hb, hb'⟩ := h
  go_enter Try.func22, Try.ntmps22
  go_wp2_with (first | (go_at_call 62; refine (l1slow_any _ _ _ _ (by omega) (by omega) (by omega) (by omega) (by omega) (by omega)).mono ?_; rintro e w' ⟨rfl, rfl⟩) | (go_at_call 60; refine (l1speeds_yes _ _ _ (by omega) (by omega) (by omega) (by omega)).mono ?_; rintro e w' ⟨rfl, rfl⟩) | (go_at_call 61; refine (l1brakes_yes _ _ (by omega) (by omega)).mono ?_; rintro e w' ⟨rfl, rfl⟩))
  go_ret
  exact ⟨rfl, rfl⟩

set_option maxHeartbeats 400000 in
theorem specSlowLen_wrong (v u b : Int) (w : World) (h : ¬ Right v u b) :
    Calls Try.prog 22 #[.int .i64 v, .int .i64 u, .int .i64 b] w fun e w' => e = .returned (.int .i64 (-1)) ∧ w' = w := by
  by_cases g : 0 ≤ v ∧ v ≤ 10000 ∧ 0 ≤ u ∧ u ≤ 10000
  · have g' : b < 10 ∨ 1000 < b := by unfold Right at h; omega
    clear h
    go_enter Try.func22, Try.ntmps22
    go_wp2_with (first | (go_at_call 60; refine (l1speeds_yes _ _ _ (by omega) (by omega) (by omega) (by omega)).mono ?_; rintro e w' ⟨rfl, rfl⟩) | (go_at_call 61; refine (l1brakes_no _ _ (by omega)).mono ?_; rintro e w' ⟨rfl, rfl⟩))
    go_ret
    exact ⟨rfl, rfl⟩
  · clear h
    go_enter Try.func22, Try.ntmps22
    go_wp2_with (first | (go_at_call 60; refine (l1speeds_no _ _ _ (by omega)).mono ?_; rintro e w' ⟨rfl, rfl⟩))
    go_ret
    exact ⟨rfl, rfl⟩

set_option maxHeartbeats 400000 in
theorem specSlowTicks_right (v u b : Int) (w : World) (h : Right v u b) :
    Calls Try.prog 41 #[.int .i64 v, .int .i64 u, .int .i64 b] w fun e w' => e = .returned (.int .i64 (Slow.ticks v u b)) ∧ w' = w := by
  obtain ⟨hv, hv', hu, hu', hb, hb'⟩ := h
  go_enter Try.func41, Try.ntmps41
  go_wp2_with (first | (go_at_call 62; refine (l1slow_any _ _ _ _ (by omega) (by omega) (by omega) (by omega) (by omega) (by omega)).mono ?_; rintro e w' ⟨rfl, rfl⟩) | (go_at_call 60; refine (l1speeds_yes _ _ _ (by omega) (by omega) (by omega) (by omega)).mono ?_; rintro e w' ⟨rfl, rfl⟩) | (go_at_call 61; refine (l1brakes_yes _ _ (by omega) (by omega)).mono ?_; rintro e w' ⟨rfl, rfl⟩))
  go_ret
  exact ⟨rfl, rfl⟩

set_option maxHeartbeats 400000 in
theorem specSlowTicks_wrong (v u b : Int) (w : World) (h : ¬ Right v u b) :
    Calls Try.prog 41 #[.int .i64 v, .int .i64 u, .int .i64 b] w fun e w' => e = .returned (.int .i64 (-1)) ∧ w' = w := by
  by_cases g : 0 ≤ v ∧ v ≤ 10000 ∧ 0 ≤ u ∧ u ≤ 10000
  · have g' : b < 10 ∨ 1000 < b := by unfold Right at h; omega
    clear h
    go_enter Try.func41, Try.ntmps41
    go_wp2_with (first | (go_at_call 60; refine (l1speeds_yes _ _ _ (by omega) (by omega) (by omega) (by omega)).mono ?_; rintro e w' ⟨rfl, rfl⟩) | (go_at_call 61; refine (l1brakes_no _ _ (by omega)).mono ?_; rintro e w' ⟨rfl, rfl⟩))
    go_ret
    exact ⟨rfl, rfl⟩
  · clear h
    go_enter Try.func41, Try.ntmps41
    go_wp2_with (first | (go_at_call 60; refine (l1speeds_no _ _ _ (by omega)).mono ?_; rintro e w' ⟨rfl, rfl⟩))
    go_ret
    exact ⟨rfl, rfl⟩

end Go.Proofs.Yteodefmpkljedaa
