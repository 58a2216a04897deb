/-
  Plain mathematics of slowing down: what the tick-by-tick loop adds up to, in closed form. Nothing of the program is imported here.
  The models' walks: slowing down tick by tick comes to the closed sum.
-/
import Derived.Test.YteodefmpkljedaaProg
import Derived.WalkKit
import Derived.KernelRfl
namespace Go.Proofs.Yteodefmpkljedaa
namespace Slow

/-- What is to be lost. -/
def drop (v u : Int) : Int := if v ≤ u then 0 else v - u
/-- Whole brakes in it, and the rest. -/
def whole (v u b : Int) : Int := drop v u / b
def rest (v u b : Int) : Int := drop v u % b
def ticks (v u b : Int) : Int := if 0 < rest v u b then whole v u b + 1 else whole v u b
def len (v u b : Int) : Int := ticks v u b * u + whole v u b * rest v u b + b * whole v u b * (whole v u b - 1) / 2

/-- The speed of the next tick. -/
def next (v u b : Int) : Int := if v - b < u then u else v - b

theorem drop_nonneg (v u : Int) : 0 ≤ drop v u := by unfold drop; split <;> omega

theorem whole_nonneg {v u b : Int} (hb : 1 ≤ b) : 0 ≤ whole v u b := by
  unfold whole; exact Int.ediv_nonneg (drop_nonneg v u) (by omega)
theorem rest_nonneg {v u b : Int} (hb : 1 ≤ b) : 0 ≤ rest v u b := Int.emod_nonneg _ (by omega)
theorem rest_lt {v u b : Int} (hb : 1 ≤ b) : rest v u b < b := Int.emod_lt_of_pos _ (by omega)
theorem parts (v u b : Int) : b * whole v u b + rest v u b = drop v u := Int.mul_ediv_add_emod _ _

theorem len_rest {v u b : Int} (h : v ≤ u) : len v u b = 0 ∧ ticks v u b = 0 := by
  have d : drop v u = 0 := by simp [drop, h]
  have w : whole v u b = 0 := by simp [whole, d]
  have r : rest v u b = 0 := by simp [rest, d]
  simp [len, ticks, w, r]

/-- q (q - 1) is even. -/
theorem tri_even (q : Int) : q * (q - 1) % 2 = 0 := by
  rcases Int.emod_two_eq q with h | h
  · rw [Int.mul_emod, h]; simp
  · have : (q - 1) % 2 = 0 := by omega
    rw [Int.mul_emod, this]; simp

theorem tri (b q : Int) : ∃ t, b * q * (q - 1) = 2 * t ∧ b * q * (q - 1) / 2 = t := by
  have h := tri_even q
  have e : b * q * (q - 1) = b * (q * (q - 1)) := by rw [Int.mul_assoc]
  have e2 : q * (q - 1) = 2 * (q * (q - 1) / 2) := by omega
  refine ⟨b * (q * (q - 1) / 2), ?_, ?_⟩
  · rw [e]; rw [e2]; rw [← Int.mul_assoc, Int.mul_comm b 2, Int.mul_assoc]; congr 2; omega
  · rw [e, e2, ← Int.mul_assoc, Int.mul_comm b 2, Int.mul_assoc, Int.mul_ediv_cancel_left _ (by decide)]; congr 1; omega

/-- One tick. -/
theorem step {v u b : Int} (h : u < v) (hb : 1 ≤ b) :
    len v u b = next v u b + len (next v u b) u b ∧ ticks v u b = 1 + ticks (next v u b) u b := by
  have hp := parts v u b
  have hd : drop v u = v - u := by unfold drop; rw [if_neg (by omega)]
  by_cases c : v - b < u
  · have hn : next v u b = u := by simp [next, c]
    obtain ⟨l0, t0⟩ := len_rest (v := u) (u := u) (b := b) (Int.le_refl _)
    rw [hn, l0, t0]
    have hw : whole v u b = 0 := by unfold whole; rw [hd]; exact Int.ediv_eq_zero_of_lt (by omega) (by omega)
    have hr : rest v u b = v - u := by unfold rest; rw [hd]; exact Int.emod_eq_of_lt (by omega) (by omega)
    simp [len, ticks, hw, hr, h]
  · have hn : next v u b = v - b := by simp [next, c]
    rw [hn]
    have hd' : drop (v - b) u = drop v u - b := by
      rw [hd]; unfold drop; split <;> omega
    have hb0 : b ≠ 0 := by omega
    have hw : whole (v - b) u b = whole v u b - 1 := by
      unfold whole; rw [hd']
      have := Int.sub_mul_ediv_right (drop v u) 1 hb0
      simpa using this
    have hr : rest (v - b) u b = rest v u b := by
      unfold rest; rw [hd']; exact Int.sub_emod_right _ _
    have ht : ticks (v - b) u b = ticks v u b - 1 := by
      unfold ticks; rw [hr, hw]; split <;> omega
    refine ⟨?_, by omega⟩
    unfold len
    rw [hr, hw, ht]
    obtain ⟨t1, e1, f1⟩ := tri b (whole v u b)
    obtain ⟨t2, e2, f2⟩ := tri b (whole v u b - 1)
    rw [f1, f2]
    generalize hq : whole v u b = q at *
    generalize hrr : rest v u b = r at *
    have k1 : (q - 1) * r = q * r - r := by rw [Int.sub_mul]; omega
    have k2 : (ticks v u b - 1) * u = ticks v u b * u - u := by rw [Int.sub_mul]; omega
    have k3 : b * (q - 1) * (q - 1 - 1) = b * q * (q - 1) - 2 * (b * q) + 2 * b := by
      simp only [Int.mul_sub, Int.sub_mul, Int.mul_one]; omega
    rw [k1, k2]
    omega

theorem next_bounds {v u b : Int} (h : u < v) (hb : 1 ≤ b) : u ≤ next v u b ∧ next v u b < v := by unfold next; split <;> omega

theorem len_nonneg {u b : Int} (hu : 0 ≤ u) (hb : 1 ≤ b) : ∀ (n : Nat) (v : Int), v - u ≤ n → 0 ≤ len v u b
  | 0, v, h => by rw [(len_rest (by omega)).1]; omega
  | n + 1, v, h => by
    by_cases c : v ≤ u
    · rw [(len_rest c).1]; omega
    · have nb := next_bounds (v := v) (u := u) (b := b) (by omega) hb
      have ih := len_nonneg hu hb n (next v u b) (by omega)
      rw [(step (by omega) hb).1]; omega

theorem len_pos {v u b : Int} (hu : 0 ≤ u) (hb : 1 ≤ b) : 0 ≤ len v u b := len_nonneg hu hb (v - u).toNat v (by omega)

/-- Who is faster, or brakes worse, comes no less far. -/
theorem mono_aux {u b b' : Int} (hu : 0 ≤ u) (hb : 1 ≤ b') (hbb : b' ≤ b) : ∀ (n : Nat) (v v' : Int), v' - u ≤ n → v ≤ v' → len v u b ≤ len v' u b'
  | 0, v, v', h, hv => by rw [(len_rest (by omega)).1, (len_rest (by omega)).1]; omega
  | n + 1, v, v', h, hv => by
    by_cases c : v ≤ u
    · rw [(len_rest c).1]; exact len_pos hu hb
    · have nb := next_bounds (v := v') (u := u) (b := b') (by omega) hb
      have hn : next v u b ≤ next v' u b' := by unfold next; split <;> split <;> omega
      have ih := mono_aux hu hb hbb n (next v u b) (next v' u b') (by omega) hn
      rw [(step (v := v) (by omega) (by omega)).1, (step (v := v') (by omega) hb).1]; omega

theorem mono_v {u b v v' : Int} (hu : 0 ≤ u) (hb : 1 ≤ b) (hv : v ≤ v') : len v u b ≤ len v' u b := mono_aux hu hb (Int.le_refl _) (v' - u).toNat v v' (by omega) hv
theorem mono_b {u b b' v : Int} (hu : 0 ≤ u) (hb : 1 ≤ b) (hbb : b ≤ b') : len v u b' ≤ len v u b := mono_aux hu hb hbb (v - u).toNat v v (by omega) (Int.le_refl _)

/-- The numbers that the closed sum meets on its way, at speeds and a brake. -/
structure Fits (v u b : Int) : Prop where
  w0 : 0 ≤ whole v u b
  w1 : whole v u b ≤ 1000
  r0 : 0 ≤ rest v u b
  r1 : rest v u b ≤ 1000
  t0 : 0 ≤ ticks v u b
  t1 : ticks v u b ≤ 1001
  tu0 : 0 ≤ ticks v u b * u
  tu1 : ticks v u b * u ≤ 10010000
  wr0 : 0 ≤ whole v u b * rest v u b
  wr1 : whole v u b * rest v u b ≤ 1000000
  bw0 : 0 ≤ b * whole v u b
  bw1 : b * whole v u b ≤ 10000
  bww0 : 0 ≤ b * whole v u b * (whole v u b - 1)
  bww1 : b * whole v u b * (whole v u b - 1) ≤ 10000000

theorem fits {v u b : Int} (_hv : 0 ≤ v) (hv' : v ≤ 10000) (hu : 0 ≤ u) (hu' : u ≤ 10000) (hb : 10 ≤ b) (hb' : b ≤ 1000) : Fits v u b := by
  have hp := parts v u b
  have hw := whole_nonneg (v := v) (u := u) (b := b) (by omega)
  have hr := rest_nonneg (v := v) (u := u) (b := b) (by omega)
  have hr' := rest_lt (v := v) (u := u) (b := b) (by omega)
  have hd : drop v u ≤ 10000 := by unfold drop; split <;> omega
  have h10 : 10 * whole v u b ≤ b * whole v u b := Int.mul_le_mul_of_nonneg_right hb hw
  have hw1 : whole v u b ≤ 1000 := by omega
  have hbw : b * whole v u b ≤ 10000 := by omega
  have ht : ticks v u b ≤ 1001 ∧ 0 ≤ ticks v u b := by unfold ticks; split <;> omega
  refine ⟨hw, hw1, hr, by omega, ht.2, ht.1, Int.mul_nonneg ht.2 hu, ?_, Int.mul_nonneg hw hr, ?_, by omega, hbw, ?_, ?_⟩
  · have := Int.mul_le_mul ht.1 hu' hu (by omega); omega
  · have := Int.mul_le_mul hw1 (show rest v u b ≤ 1000 by omega) hr (by omega); omega
  · by_cases c : whole v u b = 0
    · rw [c]; simp
    · exact Int.mul_nonneg (by omega) (by omega)
  · by_cases c : whole v u b = 0
    · rw [c]; simp
    · have := Int.mul_le_mul hbw (show whole v u b - 1 ≤ 1000 by omega) (by omega) (by omega); omega

theorem len_bounds {v u b : Int} (hv : 0 ≤ v) (hv' : v ≤ 10000) (hu : 0 ≤ u) (hu' : u ≤ 10000) (hb : 10 ≤ b) (hb' : b ≤ 1000) : 0 ≤ len v u b ∧ len v u b ≤ 20000000 := by
  have f := fits hv hv' hu hu' hb hb'
  have := f.tu1; have := f.wr1; have := f.bww1; have := f.tu0; have := f.wr0; have := f.bww0
  unfold len; omega

/-- From q brakes and a rest. -/
theorem from_brakes {q r b : Int} (hq : 0 ≤ q) (hr : 0 ≤ r) (hrb : r < b) (u : Int) :
    whole (u + (q * b + r)) u b = q ∧ rest (u + (q * b + r)) u b = r := by
  have hqb : 0 ≤ q * b := Int.mul_nonneg hq (by omega)
  have hd : drop (u + (q * b + r)) u = r + q * b := by unfold drop; split <;> omega
  unfold whole rest; rw [hd]
  constructor
  · rw [Int.add_mul_ediv_right _ _ (by omega), Int.ediv_eq_zero_of_lt hr hrb]; omega
  · rw [Int.add_mul_emod_self_right]; exact Int.emod_eq_of_lt hr hrb

/-- To a stand from q brakes and a rest. -/
theorem stand {q r b : Int} (hq : 0 ≤ q) (hr : 0 ≤ r) (hrb : r < b) :
    len (q * b + r) 0 b = q * r + b * q * (q - 1) / 2 ∧ ticks (q * b + r) 0 b = if 0 < r then q + 1 else q := by
  obtain ⟨h1, h2⟩ := from_brakes hq hr hrb 0
  rw [Int.zero_add] at h1 h2
  unfold len ticks; rw [h1, h2]
  constructor
  · omega
  · rfl

/-- Two pieces of whole brakes are one. -/
theorem pieces {b : Int} (hb : 1 ≤ b) : ∀ (k : Nat) (v w : Int), v = w + b * k → 0 ≤ w → len v w b + len w 0 b = len v 0 b ∧ ticks v w b + ticks w 0 b = ticks v 0 b
  | 0, v, w, h, hw => by
    have e : v = w := by simpa using h
    subst e
    obtain ⟨a, c⟩ := len_rest (v := v) (u := v) (b := b) (Int.le_refl _)
    rw [a, c]; omega
  | k + 1, v, w, h, hw => by
    have hk : b * ((k + 1 : Nat) : Int) = b * k + b := by rw [Int.natCast_add, Int.mul_add]; simp
    have hk0 : 0 ≤ b * (k : Int) := Int.mul_nonneg (by omega) (by omega)
    have ih := pieces hb k (v - b) w (by omega) hw
    have n1 : next v w b = v - b := by unfold next; rw [if_neg (by omega)]
    have n2 : next v 0 b = v - b := by unfold next; rw [if_neg (by omega)]
    obtain ⟨s1, t1⟩ := step (v := v) (u := w) (b := b) (by omega) hb
    obtain ⟨s2, t2⟩ := step (v := v) (u := 0) (b := b) (by omega) hb
    rw [n1] at s1 t1; rw [n2] at s2 t2
    omega

end Slow
end Go.Proofs.Yteodefmpkljedaa

namespace Go.Proofs.Yteodefmpkljedaa
open Go.RowKit

theorem ret_int {k : IntKind} {a b : Int} (h : a = b) : Ending.returned (.int k a) = .returned (.int k b) := by rw [h]
theorem ret_two {a b c d : Int} (h : a = c) (g : b = d) : Ending.returned (.tuple #[.int .i64 a, .int .i64 b]) = .returned (.tuple #[.int .i64 c, .int .i64 d]) := by rw [h, g]

set_option maxHeartbeats 400000 in
theorem l1slow_any (v u b : Int) (w : World) (hv : 0 ≤ v) (hv' : v ≤ 10000) (hu : 0 ≤ u) (hu' : u ≤ 10000) (hb : 10 ≤ b) (hb' : b ≤ 1000) :
    Calls Try.prog 62 #[.int .i64 v, .int .i64 u, .int .i64 b] w fun e w' => e = .returned (.tuple #[.int .i64 (Slow.len v u b), .int .i64 (Slow.ticks v u b)]) ∧ w' = w := by
  go_enter Try.func62, Try.ntmps62
  go_wp2
  go_loop [0, 8, 9] (fun x f n => ∃ y far k : Int, x = .int .i64 y ∧ f = .int .i64 far ∧ n = .int .i64 k ∧ 0 ≤ y ∧ y ≤ v ∧ 0 ≤ k ∧ k ≤ v - y ∧ 0 ≤ far ∧ far ≤ 10000 * k ∧ Hid (far + Slow.len y u b = Slow.len v u b ∧ k + Slow.ticks y u b = Slow.ticks v u b)) (fun x _ _ => (intOf x).toNat)
  case atStart => exact ⟨v, 0, 0, rfl, rfl, rfl, by omega, by omega, by omega, by omega, by omega, by omega, ⟨by omega, by omega⟩⟩
  case round =>
    obtain ⟨y, far, k, rfl, rfl, rfl, hy, hyv, hk, hkv, hf, hfk, H⟩ := hrel
    by_cases hlt : u < y
    · have hs : Hid (Slow.len y u b = Slow.next y u b + Slow.len (Slow.next y u b) u b ∧ Slow.ticks y u b = 1 + Slow.ticks (Slow.next y u b) u b) := Slow.step hlt (by omega)
      by_cases hn : y - b < u
      · have hx : Hid (Slow.next y u b = u) := by show Slow.next y u b = u; unfold Slow.next; rw [if_pos hn]
        go_wp2
        go_round
        case rel => exact ⟨u, far + u, k + 1, rfl, rfl, rfl, by omega, by omega, by omega, by omega, by omega, by omega, by have h1 := H.out; have h2 := hs.out; rw [hx.out] at h2; exact ⟨by omega, by omega⟩⟩
        case measure => simp [intOf]; omega
      · have hx : Hid (Slow.next y u b = y - b) := by show Slow.next y u b = y - b; unfold Slow.next; rw [if_neg hn]
        go_wp2
        go_round
        case rel => exact ⟨y - b, far + (y - b), k + 1, rfl, rfl, rfl, by omega, by omega, by omega, by omega, by omega, by omega, by have h1 := H.out; have h2 := hs.out; rw [hx.out] at h2; exact ⟨by omega, by omega⟩⟩
        case measure => simp [intOf]; omega
    · go_wp2
      go_ret2
      have h1 := H.out
      obtain ⟨l0, t0⟩ := Slow.len_rest (v := y) (u := u) (b := b) (by omega)
      exact ⟨ret_two (by omega) (by omega), rfl⟩

/-- Two speeds and a brake. -/
def Right (v u b : Int) : Prop := 0 ≤ v ∧ v ≤ 10000 ∧ 0 ≤ u ∧ u ≤ 10000 ∧ 10 ≤ b ∧ b ≤ 1000
theorem l1in_yes (x a b : Int) (w : World) (h : a ≤ x) (g : x ≤ b) :
    Calls Try.prog 63 #[.int .i64 x, .int .i64 a, .int .i64 b] w fun e w' => e = .returned (.bool true) ∧ w' = w := by
  go_enter Try.func63, Try.ntmps63
  go_wp2
  go_ret
  exact ⟨by simp, rfl⟩

theorem l1in_no (x a b : Int) (w : World) (h : x < a ∨ b < x) :
    Calls Try.prog 63 #[.int .i64 x, .int .i64 a, .int .i64 b] w fun e w' => e = .returned (.bool false) ∧ w' = w := by
  by_cases g : a ≤ x
  · have g' : decide (x ≤ b) = false := by simp; omega
    clear h
    go_enter Try.func63, Try.ntmps63
    go_wp2
    go_ret
    exact ⟨by simp, rfl⟩
  · have g' : decide (a ≤ x) = false := by simpa using g
    clear h
    go_enter Try.func63, Try.ntmps63
    go_wp2
    go_ret
    exact ⟨by simp, rfl⟩

theorem l1speeds_yes (v u : Int) (w : World) (h1 : 0 ≤ v) (h2 : v ≤ 10000) (h3 : 0 ≤ u) (h4 : u ≤ 10000) :
    Calls Try.prog 60 #[.int .i64 v, .int .i64 u] w fun e w' => e = .returned (.bool true) ∧ w' = w := by
  go_enter Try.func60, Try.ntmps60
  go_wp2_with (go_at_call 63; refine (l1in_yes _ _ _ _ (by omega) (by omega)).mono ?_; rintro e w' ⟨rfl, rfl⟩)
  go_ret
  exact ⟨rfl, rfl⟩

theorem l1speeds_no (v u : Int) (w : World) (h : v < 0 ∨ 10000 < v ∨ u < 0 ∨ 10000 < u) :
    Calls Try.prog 60 #[.int .i64 v, .int .i64 u] w fun e w' => e = .returned (.bool false) ∧ w' = w := by
  by_cases g : 0 ≤ v ∧ v ≤ 10000
  · obtain ⟨g1, g2⟩ := g
    have h' : u < 0 ∨ 10000 < u := by omega
    clear h
    go_enter Try.func60, Try.ntmps60
    go_wp2_with (go_at_call 63; first | (refine (l1in_yes _ _ _ _ (by omega) (by omega)).mono ?_; rintro e w' ⟨rfl, rfl⟩) | (refine (l1in_no _ _ _ _ (by omega)).mono ?_; rintro e w' ⟨rfl, rfl⟩))
    go_ret
    exact ⟨rfl, rfl⟩
  · go_enter Try.func60, Try.ntmps60
    go_wp2_with (go_at_call 63; refine (l1in_no _ _ _ _ (by omega)).mono ?_; rintro e w' ⟨rfl, rfl⟩)
    go_ret
    exact ⟨rfl, rfl⟩

theorem l1brakes_yes (b : Int) (w : World) (h1 : 10 ≤ b) (h2 : b ≤ 1000) :
    Calls Try.prog 61 #[.int .i64 b] w fun e w' => e = .returned (.bool true) ∧ w' = w := by
  go_enter Try.func61, Try.ntmps61
  go_wp2_with (go_at_call 63; refine (l1in_yes _ _ _ _ (by omega) (by omega)).mono ?_; rintro e w' ⟨rfl, rfl⟩)
  go_ret
  exact ⟨rfl, rfl⟩

theorem l1brakes_no (b : Int) (w : World) (h : b < 10 ∨ 1000 < b) :
    Calls Try.prog 61 #[.int .i64 b] w fun e w' => e = .returned (.bool false) ∧ w' = w := by
  go_enter Try.func61, Try.ntmps61
  go_wp2_with (go_at_call 63; refine (l1in_no _ _ _ _ (by omega)).mono ?_; rintro e w' ⟨rfl, rfl⟩)
  go_ret
  exact ⟨rfl, rfl⟩

set_option maxHeartbeats 400000 in
theorem specSlowLen_right (v u b : Int) (w : World) (h : Right v u b) :
    Calls Try.prog 22 #[.int .i64 v, .int .i64 u, .int .i64 b] w fun e w' => e = .returned (.int .i64 (Slow.len v u b)) ∧ w' = w := by
  obtain ⟨hv, hv', hu, hu', hb, hb'⟩ := h
  go_enter Try.func22, Try.ntmps22
  go_wp2_with (first | (go_at_call 62; refine (l1slow_any _ _ _ _ (by omega) (by omega) (by omega) (by omega) (by omega) (by omega)).mono ?_; rintro e w' ⟨rfl, rfl⟩) | (go_at_call 60; refine (l1speeds_yes _ _ _ (by omega) (by omega) (by omega) (by omega)).mono ?_; rintro e w' ⟨rfl, rfl⟩) | (go_at_call 61; refine (l1brakes_yes _ _ (by omega) (by omega)).mono ?_; rintro e w' ⟨rfl, rfl⟩))
  go_ret
  exact ⟨rfl, rfl⟩

set_option maxHeartbeats 400000 in
theorem specSlowLen_wrong (v u b : Int) (w : World) (h : ¬ Right v u b) :
    Calls Try.prog 22 #[.int .i64 v, .int .i64 u, .int .i64 b] w fun e w' => e = .returned (.int .i64 (-1)) ∧ w' = w := by
  by_cases g : 0 ≤ v ∧ v ≤ 10000 ∧ 0 ≤ u ∧ u ≤ 10000
  · have g' : b < 10 ∨ 1000 < b := by unfold Right at h; omega
    clear h
    go_enter Try.func22, Try.ntmps22
    go_wp2_with (first | (go_at_call 60; refine (l1speeds_yes _ _ _ (by omega) (by omega) (by omega) (by omega)).mono ?_; rintro e w' ⟨rfl, rfl⟩) | (go_at_call 61; refine (l1brakes_no _ _ (by omega)).mono ?_; rintro e w' ⟨rfl, rfl⟩))
    go_ret
    exact ⟨rfl, rfl⟩
  · clear h
    go_enter Try.func22, Try.ntmps22
    go_wp2_with (first | (go_at_call 60; refine (l1speeds_no _ _ _ (by omega)).mono ?_; rintro e w' ⟨rfl, rfl⟩))
    go_ret
    exact ⟨rfl, rfl⟩

set_option maxHeartbeats 400000 in
theorem specSlowTicks_right (v u b : Int) (w : World) (h : Right v u b) :
    Calls Try.prog 41 #[.int .i64 v, .int .i64 u, .int .i64 b] w fun e w' => e = .returned (.int .i64 (Slow.ticks v u b)) ∧ w' = w := by
  obtain ⟨hv, hv', hu, hu', hb, hb'⟩ := h
  go_enter Try.func41, Try.ntmps41
  go_wp2_with (first | (go_at_call 62; refine (l1slow_any _ _ _ _ (by omega) (by omega) (by omega) (by omega) (by omega) (by omega)).mono ?_; rintro e w' ⟨rfl, rfl⟩) | (go_at_call 60; refine (l1speeds_yes _ _ _ (by omega) (by omega) (by omega) (by omega)).mono ?_; rintro e w' ⟨rfl, rfl⟩) | (go_at_call 61; refine (l1brakes_yes _ _ (by omega) (by omega)).mono ?_; rintro e w' ⟨rfl, rfl⟩))
  go_ret
  exact ⟨rfl, rfl⟩

set_option maxHeartbeats 400000 in
theorem specSlowTicks_wrong (v u b : Int) (w : World) (h : ¬ Right v u b) :
    Calls Try.prog 41 #[.int .i64 v, .int .i64 u, .int .i64 b] w fun e w' => e = .returned (.int .i64 (-1)) ∧ w' = w := by
  by_cases g : 0 ≤ v ∧ v ≤ 10000 ∧ 0 ≤ u ∧ u ≤ 10000
  · have g' : b < 10 ∨ 1000 < b := by unfold Right at h; omega
    clear h
    go_enter Try.func41, Try.ntmps41
    go_wp2_with (first | (go_at_call 60; refine (l1speeds_yes _ _ _ (by omega) (by omega) (by omega) (by omega)).mono ?_; rintro e w' ⟨rfl, rfl⟩) | (go_at_call 61; refine (l1brakes_no _ _ (by omega)).mono ?_; rintro e w' ⟨rfl, rfl⟩))
    go_ret
    exact ⟨rfl, rfl⟩
  · clear h
    go_enter Try.func41, Try.ntmps41
    go_wp2_with (first | (go_at_call 60; refine (l1speeds_no _ _ _ (by omega)).mono ?_; rintro e w' ⟨rfl, rfl⟩))
    go_ret
    exact ⟨rfl, rfl⟩

end Go.Proofs.Yteodefmpkljedaa
