/-
  A search in rounds from where one has come home, as plain mathematics: each state is met first by the fewest steps.
  Chapter 4 as plain mathematics, on: states as numbers, ways between them, runs from a state.
-/
import Derived.WalkKit
import Derived.Test.YteodefmpkljedaaRuns
namespace Go.Proofs.Yteodefmpkljedaa
set_option linter.unusedVariables false

/-- From s one comes home in just k steps. -/
def Can (E : Nat → Nat → Prop) (home : Nat → Prop) : Nat → Nat → Prop
  | 0, s => home s
  | k + 1, s => ∃ t, E s t ∧ Can E home k t
theorem Can.here {E : Nat → Nat → Prop} {home : Nat → Prop} {s : Nat} (h : home s) : Can E home 0 s := h
theorem Can.step {E : Nat → Nat → Prop} {home : Nat → Prop} {s t k : Nat} (h : E s t) (c : Can E home k t) : Can E home (k + 1) s := ⟨t, h, c⟩
/-- The line as it stands: its first i are done with. -/
structure Bfs (E : Nat → Nat → Prop) (home : Nat → Prop) (L : Nat → Int) (q : Nat → Nat) (len i : Nat) : Prop where
  le : i ≤ len
  set : ∀ j, j < len → 0 ≤ L (q j)
  all : ∀ s, 0 ≤ L s → ∃ j, j < len ∧ q j = s
  mono : ∀ j k, j ≤ k → k < len → L (q j) ≤ L (q k)
  near : ∀ k, i < len → k < len → L (q k) ≤ L (q i) + 1
  sound : ∀ s, 0 ≤ L s → Can E home (L s).toNat s
  homes : ∀ s, home s → L s = 0
  done : ∀ j, j < i → ∀ s, E s (q j) → 0 ≤ L s ∧ L s ≤ L (q j) + 1
theorem Bfs.least {E : Nat → Nat → Prop} {home : Nat → Prop} {L : Nat → Int} {q : Nat → Nat} {len : Nat} (h : Bfs E home L q len len) {m s : Nat} (c : Can E home m s) : 0 ≤ L s ∧ L s ≤ m := by
  induction m generalizing s with
  | zero => have := h.homes _ c; omega
  | succ m ih =>
    obtain ⟨t, he, c'⟩ := c
    have ih := ih c'
    obtain ⟨j, hj, e⟩ := h.all _ ih.1
    have := h.done j hj _ (e ▸ he)
    rw [e] at this
    omega
/-- At the end: the fewest steps, or never. -/
theorem Bfs.fewest {E : Nat → Nat → Prop} {home : Nat → Prop} {L : Nat → Int} {q : Nat → Nat} {len : Nat} (h : Bfs E home L q len len) (s : Nat) : (L s < 0 ∧ ∀ m, ¬ Can E home m s) ∨ (0 ≤ L s ∧ Can E home (L s).toNat s ∧ ∀ m, Can E home m s → L s ≤ m) := by
  rcases Int.lt_or_le (L s) 0 with c | c
  · exact Or.inl ⟨c, fun m hm => by have := h.least hm; omega⟩
  · exact Or.inr ⟨c, h.sound s c, fun m hm => (h.least hm).2⟩
def upd {α : Type} (f : Nat → α) (i : Nat) (v : α) : Nat → α := fun j => if j = i then v else f j
theorem upd_same {α : Type} (f : Nat → α) (i : Nat) (v : α) : upd f i v i = v := if_pos rfl
theorem upd_other {α : Type} (f : Nat → α) {i j : Nat} (v : α) (h : j ≠ i) : upd f i v j = f j := if_neg h
/-- A state that was not met yet goes to the line's end. -/
theorem Bfs.push {E : Nat → Nat → Prop} {home : Nat → Prop} {L : Nat → Int} {q : Nat → Nat} {len i s : Nat} (h : Bfs E home L q len i) (hi : i < len) (he : E s (q i)) (hs : L s < 0) : Bfs E home (upd L s (L (q i) + 1)) (upd q len s) (len + 1) i := by
  have h0 := h.set i hi
  have hne : ∀ j, j < len → q j ≠ s := fun j hj e => by have := h.set j hj; rw [e] at this; omega
  have hL : ∀ j, j < len → upd L s (L (q i) + 1) (upd q len s j) = L (q j) := fun j hj => by
    rw [upd_other q s (by omega), upd_other L _ (hne j hj)]
  have hl : upd L s (L (q i) + 1) (upd q len s len) = L (q i) + 1 := by rw [upd_same, upd_same]
  refine ⟨by omega, fun j hj => ?_, fun r hr => ?_, fun j k hjk hk => ?_, fun k _ hk => ?_, fun r hr => ?_, fun r hr => ?_, fun j hj r hr => ?_⟩
  · by_cases c : j = len
    · subst c; rw [hl]; omega
    · rw [hL j (by omega)]; exact h.set j (by omega)
  · by_cases c : r = s
    · exact ⟨len, by omega, by rw [upd_same, c]⟩
    · rw [upd_other L _ c] at hr
      obtain ⟨j, hj, e⟩ := h.all r hr
      exact ⟨j, by omega, by rw [upd_other q s (by omega)]; exact e⟩
  · by_cases c : k = len
    · subst c
      rw [hl]
      by_cases d : j = k
      · subst d; rw [hl]; omega
      · rw [hL j (by omega)]; exact h.near j hi (by omega)
    · rw [hL j (by omega), hL k (by omega)]; exact h.mono j k hjk (by omega)
  · rw [hL i hi]
    by_cases c : k = len
    · subst c; rw [hl]; omega
    · rw [hL k (by omega)]; exact h.near k hi (by omega)
  · by_cases c : r = s
    · subst c
      rw [upd_same, show (L (q i) + 1).toNat = (L (q i)).toNat + 1 by omega]
      exact Can.step he (h.sound _ h0)
    · rw [upd_other L _ c] at hr ⊢; exact h.sound r hr
  · have hz := h.homes r hr
    have c : r ≠ s := fun e => by rw [e] at hz; omega
    rw [upd_other L _ c]; exact hz
  · have hj' : j < len := by omega
    rw [hL j hj']
    rw [upd_other q s (by omega)] at hr
    have := h.done j hj r hr
    have c : r ≠ s := fun e => by rw [e] at this; omega
    rw [upd_other L _ c]; exact this
/-- The line's next one, once all that come to this one are met. -/
theorem Bfs.next {E : Nat → Nat → Prop} {home : Nat → Prop} {L : Nat → Int} {q : Nat → Nat} {len i : Nat} (h : Bfs E home L q len i) (hi : i < len) (ha : ∀ s, E s (q i) → 0 ≤ L s) : Bfs E home L q len (i + 1) := by
  refine ⟨by omega, h.set, h.all, h.mono, fun k h1 hk => ?_, h.sound, h.homes, fun j hj s hs => ?_⟩
  · have := h.near k hi hk
    have := h.mono i (i + 1) (by omega) h1
    omega
  · by_cases c : j = i
    · subst c
      have h0 := ha s hs
      obtain ⟨k, hk, e⟩ := h.all s h0
      have := h.near k hi hk
      rw [e] at this
      exact ⟨h0, this⟩
    · exact h.done j (by omega) s hs

end Go.Proofs.Yteodefmpkljedaa

namespace Go.Proofs.Yteodefmpkljedaa
open Go.RowKit
set_option linter.unusedVariables false

/-- A state's number: how far ahead, how fast. -/
def stn (d v : Int) : Nat := (d * 61 + v).toNat
theorem stn_eq {d v d' v' : Int} (h0 : 0 ≤ d) (h1 : 0 ≤ v) (h2 : v ≤ 60) (g0 : 0 ≤ d') (g1 : 0 ≤ v') (g2 : v' ≤ 60) (e : stn d v = stn d' v') : d = d' ∧ v = v' := by
  unfold stn at e
  omega
/-- The way from a state to the next one. -/
def Prof.way (P : Prof) (acc x : Int) (s t : Nat) : Prop := ∃ d v w, (0 ≤ d ∧ x + d ≤ P.fin) ∧ (0 ≤ v ∧ v ≤ 60) ∧ s = stn d v ∧ t = stn (d + w) w ∧ P.goes acc x d v w = true
def Prof.homeN (P : Prof) (x short : Int) (s : Nat) : Prop := ∃ d, 0 ≤ d ∧ s = stn d 0 ∧ P.home x short d 0 = true
/-- A run on from a state. -/
def Prof.onward (P : Prof) (acc x short : Int) : List Int → Int → Int → Prop
  | [], d, v => P.home x short d v = true
  | w :: ws, d, v => P.goes acc x d v w = true ∧ P.onward acc x short ws (d + w) w
theorem Prof.home_v {P : Prof} {x short d v : Int} (h : P.home x short d v = true) : v = 0 ∧ x + d ≤ P.fin := by
  unfold Prof.home at h
  simp at h
  exact ⟨h.1, h.2.1⟩
theorem Prof.can_of {P : Prof} (hr : ∀ y, 1 ≤ P.rate y) {acc x short : Int} (ha : 0 ≤ acc) : ∀ (ws : List Int) (d v : Int), 0 ≤ d → x + d ≤ P.fin → 0 ≤ v → v ≤ 60 → P.onward acc x short ws d v → Can (P.way acc x) (P.homeN x short) ws.length (stn d v)
  | [], d, v, h0, h1, h2, h3, h => by
    have hv := (Prof.home_v h).1
    subst hv
    exact Can.here ⟨d, h0, rfl, h⟩
  | w :: ws, d, v, h0, h1, h2, h3, h => by
    have hg := Prof.goes_in hr ha h2 h3 h.1
    exact Can.step ⟨d, v, w, ⟨h0, h1⟩, ⟨h2, h3⟩, rfl, rfl, h.1⟩ (P.can_of hr ha ws (d + w) w (by omega) (by omega) hg.1 hg.2.1 h.2)
theorem Prof.of_can {P : Prof} (hr : ∀ y, 1 ≤ P.rate y) {acc x short : Int} (ha : 0 ≤ acc) {k s : Nat} (c : Can (P.way acc x) (P.homeN x short) k s) : ∀ d v : Int, 0 ≤ d → 0 ≤ v → v ≤ 60 → s = stn d v → ∃ ws : List Int, ws.length = k ∧ P.onward acc x short ws d v := by
  induction k generalizing s with
  | zero =>
    intro d v h0 h1 h2 e
    obtain ⟨d', g0, e', hg⟩ := c
    obtain ⟨rfl, rfl⟩ := stn_eq h0 h1 h2 g0 (by omega) (by omega) (e.symm.trans e')
    exact ⟨[], rfl, hg⟩
  | succ k ih =>
    intro d v h0 h1 h2 e
    obtain ⟨t, he, c'⟩ := c
    have ih := ih c'
    obtain ⟨d', v', w, ⟨g0, g1⟩, ⟨g2, g3⟩, e1, e2, hg⟩ := he
    obtain ⟨rfl, rfl⟩ := stn_eq h0 h1 h2 g0 g2 g3 (e.symm.trans e1)
    have hi := Prof.goes_in hr ha h1 h2 hg
    obtain ⟨ws, hl, ho⟩ := ih (d + w) w (by omega) hi.1 hi.2.1 e2
    exact ⟨w :: ws, by simp [hl], hg, ho⟩
/-- A run by its list of speeds is one by its numbers. -/
def rstL : List Int → Int × Int → Int × Int
  | [], s => s
  | w :: ws, s => rstL ws (s.1 + w, w)
/-- The greatest speed of those up to a bound that keep to a count. -/
def bestUp (p : Int → Bool) (lo : Int) : Nat → Int → Int
  | 0, b => b
  | m + 1, b => bestUp p (lo + 1) m (if p lo = true then lo else b)
theorem bestUp_is (p : Int → Bool) : ∀ (m : Nat) (lo b : Int), (bestUp p lo m b = b ∧ ∀ w, lo ≤ w → w < lo + m → p w = false) ∨ (lo ≤ bestUp p lo m b ∧ bestUp p lo m b < lo + m ∧ p (bestUp p lo m b) = true ∧ ∀ w, bestUp p lo m b < w → w < lo + m → p w = false)
  | 0, lo, b => Or.inl ⟨rfl, fun w h g => by omega⟩
  | m + 1, lo, b => by
    unfold bestUp
    cases c : p lo with
    | true =>
      rw [if_pos rfl]
      rcases bestUp_is p m (lo + 1) lo with ⟨e, h⟩ | ⟨h1, h2, h3, h4⟩
      · right
        rw [e]
        exact ⟨by omega, by omega, c, fun w h1 h2 => h w (by omega) (by omega)⟩
      · right
        exact ⟨by omega, by omega, h3, fun w g1 g2 => h4 w g1 (by omega)⟩
    | false =>
      rw [if_neg (by simp)]
      rcases bestUp_is p m (lo + 1) b with ⟨e, h⟩ | ⟨h1, h2, h3, h4⟩
      · left
        refine ⟨e, fun w h1 h2 => ?_⟩
        by_cases d : w = lo
        · subst d; exact c
        · exact h w (by omega) (by omega)
      · right
        exact ⟨by omega, by omega, h3, fun w g1 g2 => h4 w g1 (by omega)⟩

end Go.Proofs.Yteodefmpkljedaa
