/-
  Chapter 4 as plain mathematics, on: states as numbers, ways between them, runs from a state.
-/
import Derived.Test.YteodefmpkljedaaRuns
import Derived.Test.YteodefmpkljedaaBfs
namespace Go.Proofs.Yteodefmpkljedaa
open Go.RowKit
set_option linter.unusedVariables false

/-- A state's number: how far ahead, how fast. -/
def stn (d v : Int) : Nat := (d * 61 + v).toNat
theorem stn_eq {d v d' v' : Int} (h0 : 0 ≤ d) (h1 : 0 ≤ v) (h2 : v ≤ 60) (g0 : 0 ≤ d') (g1 : 0 ≤ v') (g2 : v' ≤ 60) (e : stn d v = stn d' v') : d = d' ∧ v = v' := by
  unfold stn at e
  omega
/-- The way from a state to the next one. -/
def Prof.way (P : Prof) (acc x : Int) (s t : Nat) : Prop := ∃ d v w, (0 ≤ d ∧ x + d ≤ P.fin) ∧ (0 ≤ v ∧ v ≤ 60) ∧ s = stn d v ∧ t = stn (d + w) w ∧ P.goes acc x d v w = true
def Prof.homeN (P : Prof) (x short : Int) (s : Nat) : Prop := ∃ d, 0 ≤ d ∧ s = stn d 0 ∧ P.home x short d 0 = true
/-- A run on from a state. -/
def Prof.onward (P : Prof) (acc x short : Int) : List Int → Int → Int → Prop
  | [], d, v => P.home x short d v = true
  | w :: ws, d, v => P.goes acc x d v w = true ∧ P.onward acc x short ws (d + w) w
theorem Prof.home_v {P : Prof} {x short d v : Int} (h : P.home x short d v = true) : v = 0 ∧ x + d ≤ P.fin := by
  unfold Prof.home at h
  simp at h
  exact ⟨h.1, h.2.1⟩
theorem Prof.can_of {P : Prof} (hr : ∀ y, 1 ≤ P.rate y) {acc x short : Int} (ha : 0 ≤ acc) : ∀ (ws : List Int) (d v : Int), 0 ≤ d → x + d ≤ P.fin → 0 ≤ v → v ≤ 60 → P.onward acc x short ws d v → Can (P.way acc x) (P.homeN x short) ws.length (stn d v)
  | [], d, v, h0, h1, h2, h3, h => by
    have hv := (Prof.home_v h).1
    subst hv
    exact Can.here ⟨d, h0, rfl, h⟩
  | w :: ws, d, v, h0, h1, h2, h3, h => by
    have hg := Prof.goes_in hr ha h2 h3 h.1
    exact Can.step ⟨d, v, w, ⟨h0, h1⟩, ⟨h2, h3⟩, rfl, rfl, h.1⟩ (P.can_of hr ha ws (d + w) w (by omega) (by omega) hg.1 hg.2.1 h.2)
theorem Prof.of_can {P : Prof} (hr : ∀ y, 1 ≤ P.rate y) {acc x short : Int} (ha : 0 ≤ acc) {k s : Nat} (c : Can (P.way acc x) (P.homeN x short) k s) : ∀ d v : Int, 0 ≤ d → 0 ≤ v → v ≤ 60 → s = stn d v → ∃ ws : List Int, ws.length = k ∧ P.onward acc x short ws d v := by
  induction k generalizing s with
  | zero =>
    intro d v h0 h1 h2 e
    obtain ⟨d', g0, e', hg⟩ := c
    obtain ⟨rfl, rfl⟩ := stn_eq h0 h1 h2 g0 (by omega) (by omega) (e.symm.trans e')
    exact ⟨[], rfl, hg⟩
  | succ k ih =>
    intro d v h0 h1 h2 e
    obtain ⟨t, he, c'⟩ := c
    have ih := ih c'
    obtain ⟨d', v', w, ⟨g0, g1⟩, ⟨g2, g3⟩, e1, e2, hg⟩ := he
    obtain ⟨rfl, rfl⟩ := stn_eq h0 h1 h2 g0 g2 g3 (e.symm.trans e1)
    have hi := Prof.goes_in hr ha h1 h2 hg
    obtain ⟨ws, hl, ho⟩ := ih (d + w) w (by omega) hi.1 hi.2.1 e2
    exact ⟨w :: ws, by simp [hl], hg, ho⟩
/-- A run by its list of speeds is one by its numbers. -/
def rstL : List Int → Int × Int → Int × Int
  | [], s => s
  | w :: ws, s => rstL ws (s.1 + w, w)
/-- The greatest speed of those up to a bound that keep to a count. -/
def bestUp (p : Int → Bool) (lo : Int) : Nat → Int → Int
  | 0, b => b
  | m + 1, b => bestUp p (lo + 1) m (if p lo = true then lo else b)
theorem bestUp_is (p : Int → Bool) : ∀ (m : Nat) (lo b : Int), (bestUp p lo m b = b ∧ ∀ w, lo ≤ w → w < lo + m → p w = false) ∨ (lo ≤ bestUp p lo m b ∧ bestUp p lo m b < lo + m ∧ p (bestUp p lo m b) = true ∧ ∀ w, bestUp p lo m b < w → w < lo + m → p w = false)
  | 0, lo, b => Or.inl ⟨rfl, fun w h g => by omega⟩
  | m + 1, lo, b => by
    unfold bestUp
    cases c : p lo with
    | true =>
      rw [if_pos rfl]
      rcases bestUp_is p m (lo + 1) lo with ⟨e, h⟩ | ⟨h1, h2, h3, h4⟩
      · right
        rw [e]
        exact ⟨by omega, by omega, c, fun w h1 h2 => h w (by omega) (by omega)⟩
      · right
        exact ⟨by omega, by omega, h3, fun w g1 g2 => h4 w g1 (by omega)⟩
    | false =>
      rw [if_neg (by simp)]
      rcases bestUp_is p m (lo + 1) b with ⟨e, h⟩ | ⟨h1, h2, h3, h4⟩
      · left
        refine ⟨e, fun w h1 h2 => ?_⟩
        by_cases d : w = lo
        · subst d; exact c
        · exact h w (by omega) (by omega)
      · right
        exact ⟨by omega, by omega, h3, fun w g1 g2 => h4 w g1 (by omega)⟩

end Go.Proofs.Yteodefmpkljedaa
