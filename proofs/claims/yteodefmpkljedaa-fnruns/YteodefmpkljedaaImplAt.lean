/-
  The program's brake at a place: a search over the ends.
-/
import Derived.Test.YteodefmpkljedaaSpecAt
import Derived.Deep.RegionHeld3
import Derived.Deep.QuietTactic
namespace Go.Proofs.Yteodefmpkljedaa
open Go.RowKit
attribute [local go_sem ↓] Go.wp_at_zero Go.wp_at_succ
set_option linter.unusedVariables false

def findUp (L : Nat → Int) (x : Int) : Nat → Nat → Nat
  | 0, k => k
  | m + 1, k => if x < sumTo L (k + 1) then k else findUp L x m (k + 1)
/-- The first piece that ends above x, or how many there are. -/
def Prof.find (P : Prof) (x : Int) : Nat := findUp P.L x P.np 0
theorem findUp_is (L : Nat → Int) (x : Int) : ∀ (m k : Nat), (∀ j, j < k → sumTo L (j + 1) ≤ x) → k ≤ findUp L x m k ∧ findUp L x m k ≤ k + m ∧ (∀ j, j < findUp L x m k → sumTo L (j + 1) ≤ x) ∧ (findUp L x m k < k + m → x < sumTo L (findUp L x m k + 1))
  | 0, k, h => ⟨Nat.le_refl _, Nat.le_refl _, h, fun c => by simp [findUp] at c⟩
  | m + 1, k, h => by
    unfold findUp
    by_cases c : x < sumTo L (k + 1)
    · rw [if_pos c]; exact ⟨Nat.le_refl _, by omega, h, fun _ => c⟩
    · rw [if_neg c]
      obtain ⟨h1, h2, h3, h4⟩ := findUp_is L x m (k + 1) (fun j hj => by
        by_cases d : j < k
        · exact h j d
        · have : j = k := by omega
          subst this; omega)
      exact ⟨by omega, by omega, h3, fun d => h4 (by omega)⟩
theorem Found.unique {p : Int → Bool} {lo hi m n : Int} (h : Found p lo hi m) (g : Found p lo hi n) : m = n := by
  obtain ⟨h1, h2, h3, h4⟩ := h
  obtain ⟨g1, g2, g3, g4⟩ := g
  rcases Int.lt_trichotomy m n with c | c | c
  · have := g3 m h1 c; rw [h4 m (by omega) (by omega)] at this; cases this
  · exact c
  · have := h3 n g1 c; rw [g4 n (by omega) (by omega)] at this; cases this
theorem Prof.find_found {P : Prof} (h : P.Up) (x : Int) : Found (P.above x) 0 P.np (P.find x) := by
  obtain ⟨h1, h2, h3, h4⟩ := findUp_is P.L x P.np 0 (fun j hj => by omega)
  unfold Prof.find
  refine ⟨by omega, by omega, fun i hi hm => ?_, fun i hi hm => ?_⟩
  · unfold Prof.above
    have := h3 i.toNat (by omega)
    simp; omega
  · have hx := h4 (by omega)
    refine Prof.above_mono h x (findUp P.L x P.np 0) i (by omega) hi hm ?_
    unfold Prof.above
    simpa using hx
theorem Prof.find_le {P : Prof} (h : P.Up) (x : Int) : P.find x ≤ P.np := by have := (P.find_found h x).2.1; omega
theorem Prof.rate_low {P : Prof} (h : P.Up) (h1 : 1 ≤ P.np) {x : Int} (c : P.find x < P.np - 1) : P.rate x = P.B (P.find x) := by
  rw [Prof.rate_of_found h1 (P.find_found h x), Prof.pick, if_pos (by omega)]; congr 1
theorem Prof.rate_high {P : Prof} (h : P.Up) (h1 : 1 ≤ P.np) {x : Int} (c : P.np - 1 ≤ P.find x) : P.rate x = P.B (P.np - 1) := by
  rw [Prof.rate_of_found h1 (P.find_found h x), Prof.pick, if_neg (by omega)]

set_option maxHeartbeats 400000 in
theorem above1_any (P : Prof) (x i : Int) (w : World) (B1 B2 g : Nat) (h1 : w.cell? ⟨B1, 0, none⟩ = some (.slice (some ⟨g, 0, none⟩) P.np P.np)) (h2 : w.cell? ⟨B2, 0, none⟩ = some (.int .i64 x)) (hrow : w.rowIs g 3 P.np (endOf P.L)) (hn : P.np ≤ 60) (i0 : 0 ≤ i) (i1 : i < P.np) :
    Calls Try.prog 134 #[.int .i64 i, .pointer (some ⟨B1, 0, none⟩), .pointer (some ⟨B2, 0, none⟩)] w fun e w' => e = .returned (.bool (P.above x i)) ∧ Below w.heap.size w w' := by
  obtain ⟨k, rfl⟩ := Int.eq_ofNat_of_zero_le i0
  have c : w.cell? ⟨g, k, none⟩ = some (.int .i64 (sumTo P.L (k + 1))) := hrow.cell (by omega)
  clear hrow
  go_enter Try.func134, Try.ntmps134
  go_wp2
  go_quiet (fail)
  go_wp2
  go_ret
  exact ⟨ret_bool (by unfold Prof.above; simp), below_drewN (Below.refl _ _) _⟩

set_option maxHeartbeats 1000000 in
theorem leastAbove_any (P : Prof) (x : Int) (w : World) (B1 B2 g : Nat) (h1 : w.cell? ⟨B1, 0, none⟩ = some (.slice (some ⟨g, 0, none⟩) P.np P.np)) (h2 : w.cell? ⟨B2, 0, none⟩ = some (.int .i64 x)) (hrow : w.rowIs g 3 P.np (endOf P.L)) (hl : P.Up) :
    Calls Try.prog 58 #[.int .i64 0, .int .i64 P.np, .func (.func 134) #[] #[.pointer (some ⟨B1, 0, none⟩), .pointer (some ⟨B2, 0, none⟩)]] w fun e w' => e = .returned (.int .i64 (P.find x)) ∧ Below w.heap.size w w' := by
  have hn := hl.1
  have HL : Hid P.Up := hl
  have l1 := World.block_lt_of_cell? _ _ h1
  have l2 := World.block_lt_of_cell? _ _ h2
  have HC : Hid (∀ wr, Below w.heap.size w wr → wr.cell? ⟨B1, 0, none⟩ = some (.slice (some ⟨g, 0, none⟩) P.np P.np) ∧ wr.cell? ⟨B2, 0, none⟩ = some (.int .i64 x) ∧ wr.rowIs g 3 P.np (endOf P.L)) := fun wr hb => ⟨(hb.cell (p := ⟨B1, 0, none⟩) l1).trans h1, (hb.cell (p := ⟨B2, 0, none⟩) l2).trans h2, rowIs_below hrow hb⟩
  clear hl h1 h2 hrow l1 l2
  go_enter Try.func58, Try.ntmps58
  go_wp2
  go_loopw [0, 1] (fun l h wr => ∃ lo hi : Int, l = .int .i64 lo ∧ h = .int .i64 hi ∧ 0 ≤ lo ∧ lo ≤ hi ∧ hi ≤ P.np ∧ Hid ((∀ y, 0 ≤ y → y < lo → P.above x y = false) ∧ (∀ y, hi ≤ y → y < P.np → P.above x y = true)) ∧ Below w.heap.size w wr) (fun l h _ => (intOf h - intOf l).toNat)
  case atStart => exact ⟨0, P.np, rfl, rfl, by omega, by omega, by omega, Found.start, Below.refl _ _⟩
  case round =>
    obtain ⟨lo, hi, rfl, rfl, h1, h2, h3, H, hbel⟩ := hrel
    by_cases hlt : lo < hi
    · by_cases hp : P.above x (lo + (hi - lo) / 2) = true
      · go_wp2_with (go_at_call 134; refine (above1_any P x _ _ B1 B2 g (HC.out _ hbel).1 (HC.out _ hbel).2.1 (HC.out _ hbel).2.2 hn (by omega) (by omega)).mono ?_; rintro e w2 ⟨rfl, hb2⟩)
        go_roundw
        case rel =>
          refine ⟨lo, lo + (hi - lo) / 2, rfl, rfl, by omega, by omega, by omega, ⟨H.out.1, fun y hy hy' => ?_⟩, hbel.trans (hb2.mono hbel.size)⟩
          exact Prof.above_mono HL.out x _ _ (by omega) hy hy' hp
        case measure => simp [intOf]; omega
      · have hp' : P.above x (lo + (hi - lo) / 2) = false := by simpa using hp
        clear hp
        go_wp2_with (go_at_call 134; refine (above1_any P x _ _ B1 B2 g (HC.out _ hbel).1 (HC.out _ hbel).2.1 (HC.out _ hbel).2.2 hn (by omega) (by omega)).mono ?_; rintro e w2 ⟨rfl, hb2⟩)
        go_roundw
        case rel =>
          refine ⟨lo + (hi - lo) / 2 + 1, hi, rfl, rfl, by omega, by omega, by omega, ⟨fun y hy hy' => ?_, H.out.2⟩, hbel.trans (hb2.mono hbel.size)⟩
          cases hc : P.above x y with
          | false => rfl
          | true => rw [Prof.above_mono HL.out x y (lo + (hi - lo) / 2) hy (by omega) (by omega) hc] at hp'; cases hp'
        case measure => simp [intOf]; omega
    · have he : hi = lo := by omega
      subst he
      go_wp2
      go_ret
      exact ⟨ret_int (Found.unique ⟨h1, h3, H.out⟩ (P.find_found HL.out x)), hbel⟩

set_option maxHeartbeats 1000000 in
theorem firstAbove_any (P : Prof) (x : Int) (w : World) (g : Nat) (hrow : w.rowIs g 3 P.np (endOf P.L)) (hl : P.Up) :
    Calls Try.prog 128 #[.slice (some ⟨g, 0, none⟩) P.np P.np, .int .i64 x] w fun e w' => e = .returned (.int .i64 (P.find x)) ∧ Below w.heap.size w w' := by
  have HL : Hid (P.Up) := hl
  have HR : Hid (w.rowIs g 3 P.np (endOf P.L)) := hrow
  have hn := hl.1
  have hmf : ∀ (fn : Fn) (first cap : Array Value) (w : World), (Instr.makeFunc fn first cap).run Try.prog w = .ok (.func fn first cap) w := fun _ _ _ _ => rfl
  clear hl hrow
  go_enter Try.func128, Try.ntmps128
  go_wp2_with fail
  refine (leastAbove_any P x _ (w.heap.size) (w.heap.size + 1) g (by go_simp) (by go_simp) (rowIs_below HR.out (((Below.refl _ _).alloc (Nat.le_refl _) _).alloc (by simp) _)) HL.out).mono ?_
  rintro e w2 ⟨rfl, hb2⟩
  go_wp2
  go_ret
  exact ⟨rfl, (((Below.refl _ _).alloc (Nat.le_refl _) _).alloc (by simp) _).trans (hb2.mono (by simp; omega))⟩

end Go.Proofs.Yteodefmpkljedaa
