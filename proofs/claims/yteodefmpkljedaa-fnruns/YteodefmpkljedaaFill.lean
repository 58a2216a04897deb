/-
  The model's search as plain mathematics: its beginning at the homes, a state's turn.
-/
import Derived.Test.YteodefmpkljedaaRuns3
namespace Go.Proofs.Yteodefmpkljedaa
open Go.RowKit
set_option linter.unusedVariables false

/-- The homes less than m ahead are met. -/
structure Prof.Seeds (P : Prof) (x short : Int) (L : Nat → Int) (q : Nat → Nat) (len : Nat) (m : Int) : Prop where
  set : ∀ j, j < len → L (q j) = 0
  all : ∀ s, 0 ≤ L s → ∃ j, j < len ∧ q j = s
  home : ∀ s, 0 ≤ L s → L s = 0 ∧ ∃ d, (0 ≤ d ∧ d < m) ∧ s = stn d 0 ∧ P.home x short d 0 = true
  met : ∀ d, 0 ≤ d → d < m → P.home x short d 0 = true → L (stn d 0) = 0
theorem Prof.Seeds.begin (P : Prof) (x short : Int) (L : Nat → Int) (q : Nat → Nat) (h : ∀ s, L s < 0) : P.Seeds x short L q 0 0 :=
  ⟨fun j h => absurd h (Nat.not_lt_zero j), fun s g => absurd g (by have := h s; omega), fun s g => absurd g (by have := h s; omega), fun d h g => absurd g (by omega)⟩
theorem Prof.Seeds.no {P : Prof} {x short : Int} {L : Nat → Int} {q : Nat → Nat} {len : Nat} {m : Int} (h : P.Seeds x short L q len m) (hh : P.home x short m 0 = false) : P.Seeds x short L q len (m + 1) := by
  refine ⟨h.set, h.all, fun s hs => ?_, fun d d0 d1 hd => ?_⟩
  · obtain ⟨e, d, ⟨h1, h2⟩, h3⟩ := h.home s hs
    exact ⟨e, d, ⟨h1, by omega⟩, h3⟩
  · by_cases c : d = m
    · subst c; rw [hh] at hd; simp at hd
    · exact h.met d d0 (by omega) hd
/-- A home that is not met yet. -/
theorem Prof.Seeds.new {P : Prof} {x short : Int} {L : Nat → Int} {q : Nat → Nat} {len : Nat} {m : Int} (h : P.Seeds x short L q len m) (m0 : 0 ≤ m) : L (stn m 0) < 0 := by
  rcases Int.lt_or_le (L (stn m 0)) 0 with c | c
  · exact c
  · obtain ⟨_, d, ⟨h1, h2⟩, e, _⟩ := h.home _ c
    have := (stn_eq m0 (by omega) (by omega) h1 (by omega) (by omega) e).1
    omega
theorem Prof.Seeds.yes {P : Prof} {x short : Int} {L : Nat → Int} {q : Nat → Nat} {len : Nat} {m : Int} (h : P.Seeds x short L q len m) (m0 : 0 ≤ m) (hh : P.home x short m 0 = true) : P.Seeds x short (upd L (stn m 0) 0) (upd q len (stn m 0)) (len + 1) (m + 1) := by
  refine ⟨fun j hj => ?_, fun s hs => ?_, fun s hs => ?_, fun d d0 d1 hd => ?_⟩
  · by_cases c : j = len
    · subst c; rw [upd_same, upd_same]
    · rw [upd_other q _ c]
      by_cases c' : q j = stn m 0
      · rw [c', upd_same]
      · rw [upd_other L _ c']; exact h.set j (by omega)
  · by_cases c : s = stn m 0
    · exact ⟨len, by omega, by rw [upd_same, c]⟩
    · rw [upd_other L _ c] at hs
      obtain ⟨j, hj, e⟩ := h.all s hs
      exact ⟨j, by omega, by rw [upd_other q _ (by omega)]; exact e⟩
  · by_cases c : s = stn m 0
    · subst c; rw [upd_same]; exact ⟨rfl, m, ⟨m0, by omega⟩, rfl, hh⟩
    · rw [upd_other L _ c] at hs ⊢
      obtain ⟨e, d, ⟨h1, h2⟩, h3⟩ := h.home s hs
      exact ⟨e, d, ⟨h1, by omega⟩, h3⟩
  · by_cases c : stn d 0 = stn m 0
    · rw [c, upd_same]
    · rw [upd_other L _ c]
      refine h.met d d0 ?_ hd
      have : d ≠ m := fun e => c (by rw [e])
      omega
/-- With all homes met the search begins. -/
theorem Prof.Seeds.bfs {P : Prof} {acc x short : Int} {L : Nat → Int} {q : Nat → Nat} {len : Nat} {m : Int} (h : P.Seeds x short L q len m) (hm : P.fin - x < m) : Bfs (P.way acc x) (P.homeN x short) L q len 0 := by
  refine ⟨Nat.zero_le _, fun j hj => by rw [h.set j hj]; omega, h.all, fun j k hjk hk => by rw [h.set j (by omega), h.set k hk]; omega, fun k h0 hk => by rw [h.set k hk, h.set 0 h0]; omega, fun s hs => ?_, fun s hs => ?_, fun j hj => absurd hj (Nat.not_lt_zero j)⟩
  · obtain ⟨e, d, ⟨h1, _⟩, h3⟩ := h.home s hs
    rw [e]
    exact .here ⟨d, h1, h3⟩
  · obtain ⟨d, d0, rfl, hd⟩ := hs
    have := (Prof.home_v hd).2
    exact h.met d d0 (by omega) hd
/-- How many states below a number are met. -/
def cnt (L : Nat → Int) : Nat → Nat
  | 0 => 0
  | n + 1 => cnt L n + (if 0 ≤ L n then 1 else 0)
theorem cnt_le (L : Nat → Int) : ∀ n, cnt L n ≤ n
  | 0 => Nat.le_refl _
  | n + 1 => by
    have := cnt_le L n
    unfold cnt
    split <;> omega
theorem cnt_none {L : Nat → Int} (h : ∀ s, L s < 0) : ∀ n, cnt L n = 0
  | 0 => rfl
  | n + 1 => by
    unfold cnt
    rw [cnt_none h n, if_neg (by have := h n; omega)]
theorem cnt_out (L : Nat → Int) {s : Nat} (v : Int) : ∀ n, n ≤ s → cnt (upd L s v) n = cnt L n
  | 0, _ => rfl
  | n + 1, h => by
    unfold cnt
    rw [cnt_out L v n (by omega), upd_other L v (show n ≠ s by omega)]
/-- One more is met. -/
theorem cnt_upd {L : Nat → Int} {s : Nat} {v : Int} (hL : L s < 0) (hv : 0 ≤ v) : ∀ n, s < n → cnt (upd L s v) n = cnt L n + 1
  | 0, h => absurd h (Nat.not_lt_zero s)
  | n + 1, h => by
    unfold cnt
    by_cases c : s = n
    · subst c
      rw [cnt_out L v s (Nat.le_refl _), upd_same, if_pos hv, if_neg (by omega)]
    · rw [cnt_upd hL hv n (by omega), upd_other L v (show n ≠ s from fun e => c e.symm)]
      omega
/-- A state by its number. -/
theorem stn_of {d v : Int} (d0 : 0 ≤ d) (v0 : 0 ≤ v) (v1 : v ≤ 60) : ((stn d v : Nat) : Int) = d * 61 + v := by unfold stn; omega
theorem stn_mod {d v : Int} (d0 : 0 ≤ d) (v0 : 0 ≤ v) (v1 : v ≤ 60) : (d * 61 + v) % 61 = v ∧ (d * 61 + v) / 61 = d := by omega
/-- The states that come to one: a tick's way back. -/
theorem Prof.way_to {P : Prof} (hr : ∀ y, 1 ≤ P.rate y) {acc x : Int} (ha : 0 ≤ acc) {D w : Int} {s : Nat} (D0 : 0 ≤ D) (w0 : 0 ≤ w) (w1 : w ≤ 60) : P.way acc x s (stn D w) ↔ ∃ v, (0 ≤ v ∧ v ≤ 60) ∧ (0 ≤ D - w ∧ x + (D - w) ≤ P.fin) ∧ s = stn (D - w) v ∧ P.goes acc x (D - w) v w = true := by
  constructor
  · rintro ⟨d, v, u, ⟨d0, d1⟩, ⟨v0, v1⟩, e1, e2, hg⟩
    have hi := Prof.goes_in hr ha v0 v1 hg
    obtain ⟨h1, h2⟩ := stn_eq D0 w0 w1 (by omega) hi.1 hi.2.1 e2
    subst h2
    have : D - w = d := by omega
    rw [this]
    exact ⟨v, ⟨v0, v1⟩, ⟨d0, d1⟩, e1, hg⟩
  · rintro ⟨v, hv, hd, e, hg⟩
    exact ⟨D - w, v, w, hd, hv, e, by rw [show D - w + w = D by omega], hg⟩
/-- A state's turn: the speeds below m are tried. -/
structure Prof.Turn (P : Prof) (acc x short : Int) (L : Nat → Int) (q : Nat → Nat) (len i : Nat) (D w m : Int) : Prop where
  bfs : Bfs (P.way acc x) (P.homeN x short) L q len i
  lt : i < len
  at' : q i = stn D w
  met : ∀ v, 0 ≤ v → v < m → P.goes acc x (D - w) v w = true → 0 ≤ L (stn (D - w) v)
theorem Prof.Turn.begin {P : Prof} {acc x short : Int} {L : Nat → Int} {q : Nat → Nat} {len i : Nat} {D w : Int} (h : Bfs (P.way acc x) (P.homeN x short) L q len i) (hi : i < len) (e : q i = stn D w) : P.Turn acc x short L q len i D w 0 := ⟨h, hi, e, fun v h g => absurd g (by omega)⟩
theorem Prof.Turn.no {P : Prof} {acc x short : Int} {L : Nat → Int} {q : Nat → Nat} {len i : Nat} {D w m : Int} (h : P.Turn acc x short L q len i D w m) (hm : 0 ≤ L (stn (D - w) m) ∨ P.goes acc x (D - w) m w = false) : P.Turn acc x short L q len i D w (m + 1) := by
  refine ⟨h.bfs, h.lt, h.at', fun v v0 v1 hg => ?_⟩
  by_cases c : v = m
  · subst c
    rcases hm with hm | hm
    · exact hm
    · rw [hm] at hg; simp at hg
  · exact h.met v v0 (by omega) hg
theorem Prof.Turn.yes {P : Prof} {acc x short : Int} {L : Nat → Int} {q : Nat → Nat} {len i : Nat} {D w m : Int} (h : P.Turn acc x short L q len i D w m) (D0 : 0 ≤ D - w) (D1 : x + (D - w) ≤ P.fin) (m0 : 0 ≤ m) (m1 : m ≤ 60) (hL : L (stn (D - w) m) < 0) (hg : P.goes acc x (D - w) m w = true) :
    P.Turn acc x short (upd L (stn (D - w) m) (L (q i) + 1)) (upd q len (stn (D - w) m)) (len + 1) i D w (m + 1) := by
  have hw : P.way acc x (stn (D - w) m) (q i) := ⟨D - w, m, w, ⟨D0, D1⟩, ⟨m0, m1⟩, rfl, by rw [h.at', show D - w + w = D by omega], hg⟩
  have h0 := h.bfs.set i h.lt
  have hlt := h.lt
  refine ⟨h.bfs.push h.lt hw hL, by omega, ?_, fun v v0 v1 hv => ?_⟩
  · rw [upd_other q _ (by omega)]; exact h.at'
  · by_cases c : stn (D - w) v = stn (D - w) m
    · rw [c, upd_same]; omega
    · rw [upd_other L _ c]
      refine h.met v v0 ?_ hv
      have : v ≠ m := fun e => c (by rw [e])
      omega
theorem Prof.Turn.next {P : Prof} (hr : ∀ y, 1 ≤ P.rate y) {acc x short : Int} (ha : 0 ≤ acc) {L : Nat → Int} {q : Nat → Nat} {len i : Nat} {D w : Int} (D0 : 0 ≤ D) (w0 : 0 ≤ w) (w1 : w ≤ 60) (h : P.Turn acc x short L q len i D w 61) : Bfs (P.way acc x) (P.homeN x short) L q len (i + 1) :=
  h.bfs.next h.lt (fun s hs => by
    rw [h.at'] at hs
    obtain ⟨v, hv, _, rfl, hg⟩ := (Prof.way_to hr ha D0 w0 w1).1 hs
    exact h.met v hv.1 (by omega) hg)
/-- A state to which none comes. -/
theorem Prof.skip {P : Prof} (hr : ∀ y, 1 ≤ P.rate y) {acc x short : Int} (ha : 0 ≤ acc) {L : Nat → Int} {q : Nat → Nat} {len i : Nat} {D w : Int} (D0 : 0 ≤ D) (w0 : 0 ≤ w) (w1 : w ≤ 60) (h : Bfs (P.way acc x) (P.homeN x short) L q len i) (hi : i < len) (e : q i = stn D w) (hn : D - w < 0 ∨ P.may (x + (D - w)) w = false) : Bfs (P.way acc x) (P.homeN x short) L q len (i + 1) :=
  h.next hi (fun s hs => by
    rw [e] at hs
    obtain ⟨v, _, hd, rfl, hg⟩ := (Prof.way_to hr ha D0 w0 w1).1 hs
    rcases hn with c | c
    · omega
    · rw [(Prof.goes_iff.1 hg).2] at c; simp at c)

end Go.Proofs.Yteodefmpkljedaa
