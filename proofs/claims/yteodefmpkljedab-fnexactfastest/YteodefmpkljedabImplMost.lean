/-
  The program's walks of MostSpeed and LeastBrake: a search by halves with a function value.
-/
import Derived.Test.YteodefmpkljedabImplSlow
namespace Go.Proofs.Yteodefmpkljedab
open Go.RowKit
attribute [local go_sem ↓] Go.wp_at_zero Go.wp_at_succ
set_option linter.unusedVariables false

theorem ret_bool {a b : Bool} (h : a = b) : Ending.returned (.bool a) = .returned (.bool b) := by rw [h]

def tooFast (room u b d x : Int) : Bool := decide (room < d * x + Slow.len x u b)

def metBy (room v u x : Int) : Bool := decide (Slow.len v u x ≤ room)

set_option maxHeartbeats 400000 in
theorem isMetBy_any (room v u x : Int) (w : World) (h : Right v u x) (hr : 0 ≤ room) (hr' : room ≤ 100000000) :
    Calls Try.prog 58 #[.agg #[.int .i64 room, .int .i64 v, .int .i64 u], .int .i64 x] w fun e w' => e = .returned (.bool (metBy room v u x)) ∧ Below w.heap.size w w' := by
  have hl := Slow.len_bounds h.1 h.2.1 h.2.2.1 h.2.2.2.1 h.2.2.2.2.1 h.2.2.2.2.2
  obtain ⟨hl0, hl1⟩ := hl
  have H : Hid (Right v u x) := h
  clear h
  go_enter Try.func58, Try.ntmps58
  go_wp2
  generalize hW : (w.alloc _).alloc _ = W
  have c0 : W.cell? ⟨w.heap.size, 0, none⟩ = some (.int .i64 room) := by subst hW; go_simp
  have e0 : W.cell? ⟨w.heap.size + 1, 0, none⟩ = some (.int .i64 v) := by subst hW; go_simp
  have e1 : W.cell? ⟨w.heap.size + 1, 1, none⟩ = some (.int .i64 u) := by subst hW; go_simp
  have e2 : W.cell? ⟨w.heap.size + 1, 2, none⟩ = some (.int .i64 x) := by subst hW; go_simp
  have hz : w.heap.size + 2 ≤ W.heap.size := by rw [← hW]; simp
  have hb1 : Below w.heap.size w W := by rw [← hW]; exact ((Below.refl _ _).alloc (Nat.le_refl _) _).alloc (by simp) _
  clear hW
  go_region_held3 (fun y => y.cell? ⟨w.heap.size, 0, none⟩ = some (.int .i64 room) ∧ y.cell? ⟨w.heap.size + 1, 0, none⟩ = some (.int .i64 v) ∧ y.cell? ⟨w.heap.size + 1, 1, none⟩ = some (.int .i64 u) ∧ y.cell? ⟨w.heap.size + 1, 2, none⟩ = some (.int .i64 x)) (first | go_keep | (go_split_ands; refine ⟨?_, ?_, ?_, ?_⟩ <;> (rw [hb2.cell (by simp; omega)]; assumption)))
    ((go_at_call 108; refine (length_any _ _ _ _ H.out).mono ?_; rintro e w2 ⟨rfl, hb2⟩))
  all_goals go_wp2
  go_ret
  exact ⟨ret_bool rfl, hb1.drew.trans (hb2.mono (by simp; omega))⟩

/-- A search by halves: what it finds. -/
def Found (p : Int → Bool) (lo hi m : Int) : Prop := lo ≤ m ∧ m ≤ hi ∧ (∀ x, lo ≤ x → x < m → p x = false) ∧ (∀ x, m ≤ x → x < hi → p x = true)
theorem Found.start {p : Int → Bool} {lo hi : Int} : (∀ x, lo ≤ x → x < lo → p x = false) ∧ (∀ x, hi ≤ x → x < hi → p x = true) := ⟨fun _ h g => by omega, fun _ h g => by omega⟩

set_option maxHeartbeats 1000000 in
theorem leastMetBy_any (room v u : Int) (w : World) (hv : 0 ≤ v) (hv' : v ≤ 10000) (hu : 0 ≤ u) (hu' : u ≤ 10000) (hr : 0 ≤ room) (hr' : room ≤ 100000000)
    (mono : Hid (∀ x y, 10 ≤ x → x ≤ y → y < 1001 → metBy room v u x = true → metBy room v u y = true)) :
    Calls Try.prog 57 #[.int .i64 10, .int .i64 1001, .func (.func 58) #[.agg #[.int .i64 room, .int .i64 v, .int .i64 u]] #[]] w fun e w' => ∃ m : Int, e = .returned (.int .i64 m) ∧ Found (metBy room v u) 10 1001 m ∧ Below w.heap.size w w' := by
  go_enter Try.func57, Try.ntmps57
  go_wp2
  go_loopw [0, 1] (fun l h wr => ∃ lo hi : Int, l = .int .i64 lo ∧ h = .int .i64 hi ∧ 10 ≤ lo ∧ lo ≤ hi ∧ hi ≤ 1001 ∧ Hid ((∀ x, 10 ≤ x → x < lo → metBy room v u x = false) ∧ (∀ x, hi ≤ x → x < 1001 → metBy room v u x = true)) ∧ Below w.heap.size w wr) (fun l h _ => (intOf h - intOf l).toNat)
  case atStart => exact ⟨10, 1001, rfl, rfl, by omega, by omega, by omega, Found.start, Below.refl _ _⟩
  case round =>
    obtain ⟨lo, hi, rfl, rfl, h1, h2, h3, H, hbel⟩ := hrel
    by_cases hlt : lo < hi
    · by_cases hp : metBy room v u (lo + (hi - lo) / 2) = true
      · go_wp2_with (go_at_call 58; refine (isMetBy_any _ _ _ _ _ ⟨by omega, by omega, by omega, by omega, by omega, by omega⟩ hr hr').mono ?_; rintro e w2 ⟨rfl, hb2⟩)
        go_roundw
        case rel =>
          refine ⟨lo, lo + (hi - lo) / 2, rfl, rfl, by omega, by omega, by omega, ⟨H.out.1, fun x hx hx' => ?_⟩, hbel.trans (hb2.mono hbel.size)⟩
          exact mono.out _ _ (by omega) hx hx' hp
        case measure => simp [intOf]; omega
      · have hp' : metBy room v u (lo + (hi - lo) / 2) = false := by simpa using hp
        clear hp
        go_wp2_with (go_at_call 58; refine (isMetBy_any _ _ _ _ _ ⟨by omega, by omega, by omega, by omega, by omega, by omega⟩ hr hr').mono ?_; rintro e w2 ⟨rfl, hb2⟩)
        go_roundw
        case rel =>
          refine ⟨lo + (hi - lo) / 2 + 1, hi, rfl, rfl, by omega, by omega, by omega, ⟨fun x hx hx' => ?_, H.out.2⟩, hbel.trans (hb2.mono hbel.size)⟩
          cases hc : metBy room v u x with
          | false => rfl
          | true => rw [mono.out x (lo + (hi - lo) / 2) hx (by omega) (by omega) hc] at hp'; cases hp'
        case measure => simp [intOf]; omega
    · have he : hi = lo := by omega
      subst he
      go_wp2
      go_ret
      exact ⟨_, ret_int rfl, ⟨h1, h3, H.out⟩, hbel⟩

end Go.Proofs.Yteodefmpkljedab
