/-
  Reading a text, xs mathematics.
-/
import Derived.Test.YteodefmpkljedaaDoorTextMath
namespace Go.Proofs.YteodefmpkljedaaDoor
set_option linter.unusedVariables false

/-- What a reading comes to: a fault so many bytes ahead, or what was rtext and how many bytes it took. -/
abbrev Rd (α : Type) : Type := Sum Nat (α × Nat)
abbrev Rd.bad {α : Type} (n : Nat) : Rd α := Sum.inl n
abbrev Rd.ok {α : Type} (a : α) (n : Nat) : Rd α := Sum.inr (a, n)
def Rd.shift {α : Type} (k : Nat) : Rd α → Rd α
  | .inl n => .inl (k + n)
  | .inr p => .inr (p.1, k + p.2)
/-- One reading behind another. -/
def rbind {α β : Type} (m : List UInt8 → Rd α) (f : α → List UInt8 → Rd β) (r : List UInt8) : Rd β :=
  match m r with
  | .inl n => .inl n
  | .inr p => (f p.1 (r.drop p.2)).shift p.2
theorem rbind_bad {α β : Type} {m : List UInt8 → Rd α} {f : α → List UInt8 → Rd β} {r : List UInt8} {n : Nat} (h : m r = Rd.bad n) : rbind m f r = Rd.bad n := by unfold rbind; rw [h]
theorem rbind_ok {α β : Type} {m : List UInt8 → Rd α} {f : α → List UInt8 → Rd β} {r : List UInt8} {a : α} {n : Nat} (h : m r = Rd.ok a n) : rbind m f r = (f a (r.drop n)).shift n := by unfold rbind; rw [h]
theorem Rd.shift_shift {α : Type} (j k : Nat) (x : Rd α) : (x.shift k).shift j = x.shift (j + k) := by cases x <;> simp [Rd.shift, Nat.add_assoc]
theorem Rd.shift_zero {α : Type} (x : Rd α) : x.shift 0 = x := by cases x <;> simp [Rd.shift]
theorem Rd.shift_ok {α : Type} {k n : Nat} {a : α} {x : Rd α} (h : x.shift k = Rd.ok a n) : ∃ m, x = Rd.ok a m ∧ n = k + m := by
  cases x with
  | inl => cases h
  | inr q => simp only [Rd.shift, Rd.ok, Sum.inr.injEq, Prod.mk.injEq] at h; exact ⟨q.2, by rw [← h.1], h.2.symm⟩

/-- With how many bytes both begin. -/
def alikeN : List UInt8 → List UInt8 → Nat
  | a :: xs, b :: ys => if a = b then alikeN xs ys + 1 else 0
  | _, _ => 0
theorem alike_le_l : ∀ a b : List UInt8, alikeN a b ≤ a.length
  | [], _ => by simp [alikeN]
  | _ :: _, [] => by simp [alikeN]
  | a :: xs, b :: ys => by
    have := alike_le_l xs ys
    unfold alikeN
    split <;> simp <;> omega
theorem alike_le_r : ∀ a b : List UInt8, alikeN a b ≤ b.length
  | [], _ => by simp [alikeN]
  | _ :: _, [] => by simp [alikeN]
  | a :: xs, b :: ys => by
    have := alike_le_r xs ys
    unfold alikeN
    split <;> simp <;> omega
theorem alike_app (x : List UInt8) : ∀ a b : List UInt8, alikeN a b < a.length → alikeN (a ++ x) b = alikeN a b
  | [], _, h => by simp at h
  | a :: xs, [], _ => by simp [alikeN]
  | a :: xs, b :: ys, h => by
    have := alike_app x xs ys
    simp only [List.cons_append, alikeN, List.length_cons] at h ⊢
    split
    · rw [if_pos ‹_›] at h; rw [this (by omega)]
    · rfl
theorem alike_self (x : List UInt8) : ∀ a : List UInt8, alikeN (a ++ x) a = a.length
  | [] => by cases x <;> simp [alikeN]
  | a :: xs => by simp [alikeN, alike_self x xs]
theorem alike_take : ∀ (a : List UInt8) (j : Nat), j ≤ a.length → alikeN (a.take j) a = j
  | [], j, h => by simp at h; subst h; simp [alikeN]
  | a :: xs, 0, _ => by simp [alikeN]
  | a :: xs, j + 1, h => by simp [alikeN]; exact alike_take xs j (by simpa using h)
theorem alike_take_le : ∀ (a b : List UInt8) (j : Nat), alikeN (a.take j) b ≤ alikeN a b
  | [], b, j => by simp
  | a :: xs, b, 0 => by simp [alikeN]
  | a :: xs, [], j + 1 => by simp [alikeN]
  | a :: xs, b :: ys, j + 1 => by
    have := alike_take_le xs ys j
    simp only [List.take_succ_cons, alikeN]
    split <;> omega
theorem alike_full : ∀ (r b : List UInt8), alikeN r b = b.length → ∃ x, r = b ++ x
  | r, [], _ => ⟨r, rfl⟩
  | [], b :: ys, h => by simp [alikeN] at h
  | a :: xs, b :: ys, h => by
    simp only [alikeN, List.length_cons] at h
    by_cases c : a = b
    · rw [if_pos c] at h
      obtain ⟨x, hx⟩ := alike_full xs ys (by omega)
      exact ⟨x, by rw [c, hx]; rfl⟩
    · rw [if_neg c] at h; omega

/-- The words of a text. -/
def wrd : Nat → List UInt8
  | 0 => [116, 114, 97, 99, 107, 32]
  | 1 => [32, 98, 114, 97, 107, 101, 32]
  | 2 => [108, 105, 109, 105, 116, 32]
  | 3 => [32]
  | 4 => [116, 114, 97, 105, 110, 32]
  | 5 => [32, 101, 110, 100, 32]
  | 6 => [32, 100, 101, 108, 97, 121, 32]
  | _ => [10]
def wordFrom (far : Nat) : List Nat → List UInt8 → Rd Nat
  | [], _ => Rd.bad far
  | w :: ws, r => if alikeN r (wrd w) = (wrd w).length then Rd.ok w (wrd w).length else wordFrom (max far (alikeN r (wrd w))) ws r
/-- One of some words. -/
def rword (ws : List Nat) (r : List UInt8) : Rd Nat := wordFrom 0 ws r
/-- Two words part within both. -/
def Parts (a b : Nat) : Prop := alikeN (wrd a) (wrd b) < (wrd a).length ∧ alikeN (wrd a) (wrd b) < (wrd b).length
/-- Words of which none begins another, none with a digit. -/
def Apart (ws : List Nat) : Prop := (∀ a ∈ ws, ∀ b ∈ ws, a = b ∨ Parts a b) ∧ ∀ a ∈ ws, ∃ c t, wrd a = c :: t ∧ ¬ isDig c
theorem wordFrom_ok {ws : List Nat} {w : Nat} (x : List UInt8) (hp : ∀ b ∈ ws, w = b ∨ Parts w b) (hw : w ∈ ws) : ∀ far, wordFrom far ws (wrd w ++ x) = Rd.ok w (wrd w).length := by
  induction ws with
  | nil => cases hw
  | cons v vs ih =>
    intro far
    unfold wordFrom
    rcases hp v (by simp) with e | e
    · subst e
      rw [if_pos (alike_self x _)]
    · rw [if_neg (by rw [alike_app x _ _ e.1]; have := e.2; omega)]
      have : w ∈ vs := by
        rcases List.mem_cons.1 hw with h | h
        · subst h
          have h1 := e.1
          have h2 := alike_self [] (wrd w)
          rw [List.append_nil] at h2
          omega
        · exact h
      exact ih (fun b hb => hp b (by simp [hb])) this _
theorem wordFrom_bad {ws : List Nat} {w j : Nat} (hp : ∀ b ∈ ws, w = b ∨ Parts w b) (hj : j < (wrd w).length) : ∀ far, far ≤ j → (far = j ∨ w ∈ ws) → wordFrom far ws ((wrd w).take j) = Rd.bad j := by
  induction ws with
  | nil =>
    intro far h1 h2
    rcases h2 with h2 | h2
    · subst h2; rfl
    · cases h2
  | cons v vs ih =>
    intro far h1 h2
    unfold wordFrom
    rcases hp v (by simp) with e | e
    · subst e
      rw [alike_take _ _ (by omega), if_neg (by omega)]
      exact ih (fun b hb => hp b (by simp [hb])) _ (by omega) (Or.inl (by omega))
    · have h3 := alike_take_le (wrd w) (wrd v) j
      have h4 := alike_le_l ((wrd w).take j) (wrd v)
      have h5 := e.2
      rw [List.length_take] at h4
      rw [if_neg (by omega)]
      refine ih (fun b hb => hp b (by simp [hb])) _ (by omega) ?_
      rcases h2 with h2 | h2
      · exact Or.inl (by omega)
      · rcases List.mem_cons.1 h2 with h | h
        · subst h
          have h1 := e.1
          have h2 := alike_self [] (wrd w)
          rw [List.append_nil] at h2
          omega
        · exact Or.inr h
theorem word_ok {ws : List Nat} {w : Nat} (x : List UInt8) (ha : Apart ws) (hw : w ∈ ws) : rword ws (wrd w ++ x) = Rd.ok w (wrd w).length := wordFrom_ok x (ha.1 w hw) hw 0
theorem wordFrom_inv {ws : List Nat} {r : List UInt8} {w n : Nat} : ∀ far, wordFrom far ws r = Rd.ok w n → w ∈ ws ∧ n = (wrd w).length ∧ ∃ x, r = wrd w ++ x := by
  induction ws with
  | nil => intro far h; cases h
  | cons v vs ih =>
    intro far h
    unfold wordFrom at h
    by_cases c : alikeN r (wrd v) = (wrd v).length
    · rw [if_pos c] at h
      simp only [Rd.ok, Sum.inr.injEq, Prod.mk.injEq] at h
      obtain ⟨rfl, rfl⟩ := h
      exact ⟨by simp, rfl, alike_full _ _ c⟩
    · rw [if_neg c] at h
      obtain ⟨h1, h2, h3⟩ := ih _ h
      exact ⟨by simp [h1], h2, h3⟩
theorem word_digit {ws : List Nat} (ha : ∀ a ∈ ws, ∃ c t, wrd a = c :: t ∧ ¬ isDig c) {r : List UInt8} (hr : r = [] ∨ ∃ c t, r = c :: t ∧ isDig c) : rword ws r = Rd.bad 0 := by
  unfold rword
  have key : ∀ a ∈ ws, alikeN r (wrd a) = 0 ∧ (wrd a).length ≠ 0 := by
    intro a h
    obtain ⟨c, t, e, nd⟩ := ha a h
    refine ⟨?_, by rw [e]; simp⟩
    rcases hr with rfl | ⟨d, s, rfl, hd⟩
    · simp [alikeN]
    · rw [e]
      unfold alikeN
      rw [if_neg (fun (q : d = c) => nd (q ▸ hd))]
  clear ha hr
  induction ws with
  | nil => rfl
  | cons v vs ih =>
    obtain ⟨h1, h2⟩ := key v (by simp)
    unfold wordFrom
    rw [h1, if_neg (by omega)]
    exact ih (fun a h => key a (by simp [h]))

/-- The digits that rgo on: n so far, k more at most. -/
def numGo : Nat → Nat → List UInt8 → Nat × Nat
  | 0, n, _ => (n, 0)
  | k + 1, n, [] => (n, 0)
  | k + 1, n, c :: r => if 0 < n ∧ 48 ≤ c.toNat ∧ c.toNat ≤ 57 then ((numGo k (n * 10 + (c.toNat - 48)) r).1, (numGo k (n * 10 + (c.toNat - 48)) r).2 + 1) else (n, 0)
/-- A number: xs many digits xs may be. -/
def rnum : List UInt8 → Rd Nat
  | [] => Rd.bad 0
  | c :: r => if 48 ≤ c.toNat ∧ c.toNat ≤ 57 then Rd.ok (numGo 8 (c.toNat - 48) r).1 ((numGo 8 (c.toNat - 48) r).2 + 1) else Rd.bad 0
def valFrom (n : Nat) (l : List UInt8) : Nat := l.foldl (fun a c => 10 * a + (c.toNat - 48)) n
theorem numGo_of {y : List UInt8} (hy : y = [] ∨ ∃ c t, y = c :: t ∧ ¬ isDig c) : ∀ (d : List UInt8) (k n : Nat), d.length ≤ k → (∀ c ∈ d, isDig c) → (d = [] ∨ 0 < n) → numGo k n (d ++ y) = (valFrom n d, d.length)
  | [], 0, n, _, _, _ => by simp [numGo, valFrom]
  | [], k + 1, n, _, _, _ => by
    rcases hy with rfl | ⟨c, t, rfl, nd⟩
    · simp [numGo, valFrom]
    · unfold isDig at nd
      simp only [List.nil_append, numGo]
      rw [if_neg (fun q => nd q.2)]
      rfl
  | c :: d, 0, n, h, _, _ => by simp at h
  | c :: d, k + 1, n, h, hd, hn => by
    have hc : isDig c := hd c (by simp)
    unfold isDig at hc
    have hn' : 0 < n := by
      rcases hn with h | h
      · cases h
      · exact h
    simp only [List.cons_append, numGo]
    rw [if_pos ⟨hn', hc⟩, numGo_of hy d k _ (by simpa using h) (fun x hx => hd x (by simp [hx])) (Or.inr (by omega))]
    simp only [valFrom, List.foldl_cons, List.length_cons, Nat.mul_comm]
theorem num_of {d y : List UInt8} (hd : Numeral d) (hl : d.length ≤ 9) (hy : y = [] ∨ ∃ c t, y = c :: t ∧ ¬ isDig c) : rnum (d ++ y) = Rd.ok (valL d) d.length := by
  obtain ⟨h1, h2, h3⟩ := hd
  cases d with
  | nil => exact absurd rfl h1
  | cons c d =>
    have hc : isDig c := h2 c (by simp)
    have hn : d = [] ∨ 0 < c.toNat - 48 := by
      by_cases e : c = 48
      · subst e
        have := h3 rfl
        exact Or.inl (by simpa using this)
      · refine Or.inr ?_
        unfold isDig at hc
        have : c.toNat ≠ 48 := fun q => e (UInt8.toNat_inj.1 q)
        omega
    unfold isDig at hc
    simp only [List.cons_append, rnum]
    rw [if_pos hc, numGo_of hy d 8 _ (by simpa using hl) (fun x hx => h2 x (by simp [hx])) hn]
    simp [valFrom, valL]
theorem numGo_inv : ∀ (k n : Nat) (r : List UInt8), ∃ d y, r = d ++ y ∧ numGo k n r = (valFrom n d, d.length) ∧ d.length ≤ k ∧ (∀ c ∈ d, isDig c) ∧ (d = [] ∨ 0 < n)
  | 0, n, r => ⟨[], r, rfl, by simp [numGo, valFrom], by simp, by simp, Or.inl rfl⟩
  | k + 1, n, [] => ⟨[], [], rfl, by simp [numGo, valFrom], by simp, by simp, Or.inl rfl⟩
  | k + 1, n, c :: r => by
    by_cases h : 0 < n ∧ 48 ≤ c.toNat ∧ c.toNat ≤ 57
    · obtain ⟨d, y, e, h1, h2, h3, h4⟩ := numGo_inv k (n * 10 + (c.toNat - 48)) r
      refine ⟨c :: d, y, by rw [e]; rfl, ?_, by simpa using h2, ?_, Or.inr h.1⟩
      · simp only [numGo]
        rw [if_pos h, h1]
        simp only [valFrom, List.foldl_cons, List.length_cons, Nat.mul_comm]
      · intro x hx
        rcases List.mem_cons.1 hx with q | q
        · subst q; exact h.2
        · exact h3 x q
    · refine ⟨[], c :: r, rfl, ?_, by simp, by simp, Or.inl rfl⟩
      simp only [numGo]
      rw [if_neg h]
      rfl
theorem num_inv {r : List UInt8} {n m : Nat} (h : rnum r = Rd.ok n m) : ∃ d y, r = d ++ y ∧ Numeral d ∧ d.length = m ∧ m ≤ 9 ∧ valL d = n := by
  cases r with
  | nil => cases h
  | cons c r =>
    simp only [rnum] at h
    by_cases hc : 48 ≤ c.toNat ∧ c.toNat ≤ 57
    · rw [if_pos hc] at h
      obtain ⟨d, y, e, h1, h2, h3, h4⟩ := numGo_inv 8 (c.toNat - 48) r
      rw [h1] at h
      simp only [Rd.ok, Sum.inr.injEq, Prod.mk.injEq] at h
      refine ⟨c :: d, y, by rw [e]; rfl, ⟨by simp, ?_, ?_⟩, by simpa using h.2, by omega, ?_⟩
      · intro x hx
        rcases List.mem_cons.1 hx with q | q
        · subst q; exact hc
        · exact h3 x q
      · intro e
        have e2 : c = 48 := by simpa using e
        subst e2
        rcases h4 with h4 | h4
        · rw [h4]
        · exact absurd h4 (by decide)
      · rw [← h.1]; simp [valL, valFrom]
    · rw [if_neg hc] at h; cases h
theorem num_bad {r : List UInt8} {m : Nat} (h : rnum r = Rd.bad m) : m = 0 := by
  cases r with
  | nil => cases h; rfl
  | cons c r =>
    simp only [rnum] at h
    by_cases hc : 48 ≤ c.toNat ∧ c.toNat ≤ 57
    · rw [if_pos hc] at h; cases h
    · rw [if_neg hc] at h; cases h; rfl

/-- What it is to rtext this text, whole or cut. -/
def RdAll {α : Type} (m : List UInt8 → Rd α) (T : List UInt8) (v : α) : Prop := ∀ j, m (T.take j) = if j < T.length then Rd.bad j else Rd.ok v T.length
theorem res_shift {α : Type} (k j : Nat) (T : List UInt8) (U : List UInt8) (v : α) (hk : k ≤ j) (hU : U.length = k + T.length) : (if j - k < T.length then Rd.bad (j - k) else Rd.ok v T.length).shift k = if j < U.length then Rd.bad j else Rd.ok v U.length := by
  by_cases c : j - k < T.length
  · rw [if_pos c, if_pos (by omega)]; show Rd.bad _ = _; rw [show k + (j - k) = j by omega]
  · rw [if_neg c, if_neg (by omega)]; show Rd.ok v _ = _; rw [hU]
theorem step_word {α : Type} {ws : List Nat} {w : Nat} {k : Nat → List UInt8 → Rd α} {x : List UInt8} {v : α} (ha : Apart ws) (hw : w ∈ ws) (h : RdAll (k w) x v) : RdAll (rbind (rword ws) k) (wrd w ++ x) v := by
  intro j
  by_cases c : j < (wrd w).length
  · rw [if_pos (by rw [List.length_append]; omega), List.take_append_of_le_length (by omega)]
    exact rbind_bad (wordFrom_bad (ha.1 w hw) c 0 (Nat.zero_le _) (Or.inr hw))
  · rw [List.take_append, List.take_of_length_le (by omega), rbind_ok (word_ok _ ha hw), List.drop_left, h]
    exact res_shift _ _ _ _ _ (by omega) (by rw [List.length_append])
theorem inv_word {α : Type} {ws : List Nat} {k : Nat → List UInt8 → Rd α} {r : List UInt8} {v : α} {n : Nat} (h : rbind (rword ws) k r = Rd.ok v n) : ∃ w x m, w ∈ ws ∧ r = wrd w ++ x ∧ k w x = Rd.ok v m := by
  rcases e : rword ws r with b | ⟨w, m⟩
  · rw [rbind_bad e] at h; cases h
  ·
    obtain ⟨h1, h2, x, hx⟩ := wordFrom_inv 0 e
    rw [rbind_ok e] at h
    obtain ⟨m', h3, _⟩ := Rd.shift_ok h
    subst h2 hx
    rw [List.drop_left] at h3
    exact ⟨w, x, m', h1, rfl, h3⟩
/-- A number and the rword behind it. -/
def numW {α : Type} (ws : List Nat) (k : Nat → Nat → List UInt8 → Rd α) : List UInt8 → Rd α := rbind rnum fun n => rbind (rword ws) fun w => k n w
theorem numeral_take {d : List UInt8} (h : Numeral d) {j : Nat} (hj : 0 < j) : Numeral (d.take j) := by
  obtain ⟨h1, h2, h3⟩ := h
  refine ⟨?_, fun c hc => h2 c (List.mem_of_mem_take hc), ?_⟩
  · cases d with
    | nil => exact absurd rfl h1
    | cons c d => cases j with
      | zero => omega
      | succ j => simp
  · intro e
    rw [List.head?_take, if_neg (by omega)] at e
    rw [h3 e]
    cases j with
    | zero => omega
    | succ j => simp
theorem decL_nine {n : Nat} (h : n ≤ 999999999) : (decL n).length ≤ 9 := decL_len 9 n (by omega) (by omega)
theorem step_num {α : Type} {ws : List Nat} {n w : Nat} {k : Nat → Nat → List UInt8 → Rd α} {x : List UInt8} {v : α} (ha : Apart ws) (hw : w ∈ ws) (hn : n ≤ 999999999) (h : RdAll (k n w) x v) : RdAll (numW ws k) (decL n ++ (wrd w ++ x)) v := by
  intro j
  have hN := decL_numeral n
  have h9 := decL_nine hn
  have hv := decL_val n
  by_cases c : j ≤ (decL n).length
  · have hp := (ha.2 w hw)
    obtain ⟨c0, t0, ew, nd⟩ := hp
    rw [if_pos (by rw [List.length_append, List.length_append, ew]; simp; omega), List.take_append_of_le_length c]
    unfold numW
    rcases Nat.eq_zero_or_pos j with e | e
    · subst e; rfl
    · have hq := num_of (y := []) (numeral_take hN e) (by rw [List.length_take]; omega) (Or.inl rfl)
      rw [List.append_nil] at hq
      have hlen : ((decL n).take j).length = j := by rw [List.length_take]; omega
      rw [rbind_ok hq, hlen, List.drop_of_length_le (by omega), rbind_bad (word_digit ha.2 (Or.inl rfl))]
      rfl
  · rw [List.take_append, List.take_of_length_le (by omega)]
    have hy : (wrd w ++ x).take (j - (decL n).length) = [] ∨ ∃ c t, (wrd w ++ x).take (j - (decL n).length) = c :: t ∧ ¬ isDig c := by
      obtain ⟨c0, t0, ew, nd⟩ := ha.2 w hw
      refine Or.inr ⟨c0, (t0 ++ x).take (j - (decL n).length - 1), ?_, nd⟩
      rw [ew, show j - (decL n).length = (j - (decL n).length - 1) + 1 by omega]
      rfl
    have hq := num_of (y := (wrd w ++ x).take (j - (decL n).length)) hN h9 hy
    unfold numW
    rw [rbind_ok hq, List.drop_left, hv, step_word (k := fun w => k n w) ha hw h]
    exact res_shift _ _ _ _ _ (by omega) (by rw [List.length_append])
theorem inv_num {α : Type} {ws : List Nat} {k : Nat → Nat → List UInt8 → Rd α} {r : List UInt8} {v : α} {n : Nat} (h : numW ws k r = Rd.ok v n) : ∃ a w x m, a ≤ 999999999 ∧ w ∈ ws ∧ r = decL a ++ (wrd w ++ x) ∧ k a w x = Rd.ok v m := by
  unfold numW at h
  rcases e : rnum r with b | ⟨a, m⟩
  · rw [rbind_bad e] at h; cases h
  ·
    obtain ⟨d, y, e1, hN, hd, h9, hv⟩ := num_inv e
    rw [rbind_ok e] at h
    obtain ⟨m', h3, _⟩ := Rd.shift_ok h
    subst hd e1
    rw [List.drop_left] at h3
    obtain ⟨w, x, m2, hw, e2, h4⟩ := inv_word h3
    refine ⟨a, w, x, m2, ?_, hw, by rw [← hv, numeral_dec hN, e2], h4⟩
    rw [← hv]
    have : ∀ (l : List UInt8), (∀ c ∈ l, isDig c) → valL l < 10 ^ l.length := by
      intro l
      obtain ⟨n, hn⟩ : ∃ n, l.length = n := ⟨_, rfl⟩
      induction n generalizing l with
      | zero => intro _; rw [List.eq_nil_of_length_eq_zero hn]; decide
      | succ n ih =>
        intro hl
        obtain ⟨r, c, rfl⟩ := last_of (l := l) (fun q => by rw [q] at hn; simp at hn)
        have hr : r.length = n := by rw [List.length_append] at hn; simpa using hn
        have h1 := ih r hr (fun c hc => hl c (List.mem_append_left _ hc))
        have h2 := hl c (by simp)
        unfold isDig at h2
        rw [valL_snoc, hn, Nat.pow_succ]
        rw [hr] at h1
        omega
    have h1 := this d hN.2.1
    have h2 : 10 ^ d.length ≤ 10 ^ 9 := Nat.pow_le_pow_right (by omega) h9
    omega

/-- What is rtext: pieces, zones, the last line. -/
structure Got where
  ps : List (Nat × Nat)
  zs : List (Nat × Nat × Nat)
  t : Nat
  e : Nat
  d : Nat
def rended (g : Got) (r : List UInt8) : Rd Got := if r.length = 0 then Rd.ok g 0 else Rd.bad 0
/-- What stands behind a line's first rword, and all lines behind it. -/
def rgo : Nat → Nat → List (Nat × Nat) → List (Nat × Nat × Nat) → List UInt8 → Rd Got
  | 0, _, _, _ => fun _ => Rd.bad 0
  | f + 1, w, ps, zs =>
    if w = 0 then numW [1] fun l _ => numW [7] fun b _ => rbind (rword [0, 2, 4]) fun w' => rgo f w' (ps ++ [(l, b)]) zs
    else if w = 2 then numW [3] fun a _ => numW [3] fun b _ => numW [7] fun s _ => rbind (rword [2, 4]) fun w' => rgo f w' ps (zs ++ [(a, b, s)])
    else numW [5] fun t _ => numW [6] fun e _ => numW [7] fun d _ => rended ⟨ps, zs, t, e, d⟩
def rtext (r : List UInt8) : Rd Got := rbind (rword [0]) (fun w => rgo (r.length + 1) w [] []) r

theorem apart_1 : Apart [1] := by
  refine ⟨fun a ha b hb => Or.inl ?_, fun a ha => ?_⟩
  · simp at ha hb; omega
  · simp at ha; subst ha; exact ⟨_, _, rfl, by unfold isDig; decide⟩
theorem apart_3 : Apart [3] := by
  refine ⟨fun a ha b hb => Or.inl ?_, fun a ha => ?_⟩
  · simp at ha hb; omega
  · simp at ha; subst ha; exact ⟨_, _, rfl, by unfold isDig; decide⟩
theorem apart_5 : Apart [5] := by
  refine ⟨fun a ha b hb => Or.inl ?_, fun a ha => ?_⟩
  · simp at ha hb; omega
  · simp at ha; subst ha; exact ⟨_, _, rfl, by unfold isDig; decide⟩
theorem apart_6 : Apart [6] := by
  refine ⟨fun a ha b hb => Or.inl ?_, fun a ha => ?_⟩
  · simp at ha hb; omega
  · simp at ha; subst ha; exact ⟨_, _, rfl, by unfold isDig; decide⟩
theorem apart_7 : Apart [7] := by
  refine ⟨fun a ha b hb => Or.inl ?_, fun a ha => ?_⟩
  · simp at ha hb; omega
  · simp at ha; subst ha; exact ⟨_, _, rfl, by unfold isDig; decide⟩
theorem apart_0 : Apart [0] := by
  refine ⟨fun a ha b hb => Or.inl ?_, fun a ha => ?_⟩
  · simp at ha hb; omega
  · simp at ha; subst ha; exact ⟨_, _, rfl, by unfold isDig; decide⟩
theorem apart_024 : Apart [0, 2, 4] := by
  refine ⟨fun a ha b hb => ?_, fun a ha => ?_⟩
  · simp at ha hb
    rcases ha with rfl | rfl | rfl <;> rcases hb with rfl | rfl | rfl <;> first | exact Or.inl rfl | exact Or.inr ⟨by simp [alikeN, wrd], by simp [alikeN, wrd]⟩
  · simp at ha
    rcases ha with rfl | rfl | rfl <;> exact ⟨_, _, rfl, by unfold isDig; decide⟩
theorem apart_24 : Apart [2, 4] := by
  refine ⟨fun a ha b hb => ?_, fun a ha => ?_⟩
  · simp at ha hb
    rcases ha with rfl | rfl <;> rcases hb with rfl | rfl <;> first | exact Or.inl rfl | exact Or.inr ⟨by simp [alikeN, wrd], by simp [alikeN, wrd]⟩
  · simp at ha
    rcases ha with rfl | rfl <;> exact ⟨_, _, rfl, by unfold isDig; decide⟩

/-- What stands behind the first rword of a line. -/
def tailP (p : Nat × Nat) (x : List UInt8) : List UInt8 := decL p.1 ++ (wrd 1 ++ (decL p.2 ++ (wrd 7 ++ x)))
def tailZ (z : Nat × Nat × Nat) (x : List UInt8) : List UInt8 := decL z.1 ++ (wrd 3 ++ (decL z.2.1 ++ (wrd 3 ++ (decL z.2.2 ++ (wrd 7 ++ x)))))
def tailT (t e d : Nat) : List UInt8 := decL t ++ (wrd 5 ++ (decL e ++ (wrd 6 ++ (decL d ++ (wrd 7 ++ [])))))
def textZ (t e d : Nat) : List (Nat × Nat × Nat) → List UInt8
  | [] => wrd 4 ++ tailT t e d
  | z :: zs => wrd 2 ++ tailZ z (textZ t e d zs)
def textP (zs : List (Nat × Nat × Nat)) (t e d : Nat) : List (Nat × Nat) → List UInt8
  | [] => textZ t e d zs
  | p :: ps => wrd 0 ++ tailP p (textP zs t e d ps)
def Nine (g : Got) : Prop := (∀ p ∈ g.ps, p.1 ≤ 999999999 ∧ p.2 ≤ 999999999) ∧ (∀ z ∈ g.zs, z.1 ≤ 999999999 ∧ z.2.1 ≤ 999999999 ∧ z.2.2 ≤ 999999999) ∧ g.t ≤ 999999999 ∧ g.e ≤ 999999999 ∧ g.d ≤ 999999999
theorem reads_ended (g : Got) : RdAll (rended g) [] g := by intro j; simp [rended]
theorem goT_reads {f t e d : Nat} (ps : List (Nat × Nat)) (zs : List (Nat × Nat × Nat)) (ht : t ≤ 999999999) (he : e ≤ 999999999) (hd : d ≤ 999999999) : RdAll (rgo (f + 1) 4 ps zs) (tailT t e d) ⟨ps, zs, t, e, d⟩ := by
  unfold rgo
  rw [if_neg (by omega), if_neg (by omega)]
  exact step_num apart_5 (by simp) ht (step_num apart_6 (by simp) he (step_num apart_7 (by simp) hd (reads_ended _)))
theorem goZ_reads {t e d : Nat} (ps : List (Nat × Nat)) (ht : t ≤ 999999999) (he : e ≤ 999999999) (hd : d ≤ 999999999) : ∀ (qs zs : List (Nat × Nat × Nat)) (f : Nat) (ws : List Nat), Apart ws → 2 ∈ ws → 4 ∈ ws → qs.length < f → (∀ z ∈ qs, z.1 ≤ 999999999 ∧ z.2.1 ≤ 999999999 ∧ z.2.2 ≤ 999999999) → RdAll (rbind (rword ws) fun w => rgo f w ps zs) (textZ t e d qs) ⟨ps, zs ++ qs, t, e, d⟩
  | [], zs, f, ws, ha, h2, h4, hf, _ => by
    obtain ⟨f, rfl⟩ : ∃ k, f = k + 1 := ⟨f - 1, by simp at hf; omega⟩
    rw [List.append_nil]
    exact step_word ha h4 (goT_reads ps zs ht he hd)
  | z :: qs, zs, f, ws, ha, h2, h4, hf, hz => by
    obtain ⟨f, rfl⟩ : ∃ k, f = k + 1 := ⟨f - 1, by simp at hf; omega⟩
    refine step_word ha h2 ?_
    obtain ⟨z0, z1, z2⟩ := hz z (by simp)
    have ih := goZ_reads ps ht he hd qs (zs ++ [z]) f [2, 4] apart_24 (by simp) (by simp) (by simpa using hf) (fun y hy => hz y (by simp [hy]))
    rw [List.append_assoc] at ih
    unfold rgo
    rw [if_neg (by omega), if_pos rfl]
    exact step_num apart_3 (by simp) z0 (step_num apart_3 (by simp) z1 (step_num apart_7 (by simp) z2 ih))
theorem goP_reads {t e d : Nat} (ht : t ≤ 999999999) (he : e ≤ 999999999) (hd : d ≤ 999999999) (zs : List (Nat × Nat × Nat)) (hz : ∀ z ∈ zs, z.1 ≤ 999999999 ∧ z.2.1 ≤ 999999999 ∧ z.2.2 ≤ 999999999) : ∀ (qs ps : List (Nat × Nat)) (f : Nat), qs.length + zs.length < f → (∀ p ∈ qs, p.1 ≤ 999999999 ∧ p.2 ≤ 999999999) → RdAll (rbind (rword [0, 2, 4]) fun w => rgo f w ps []) (textP zs t e d qs) ⟨ps ++ qs, zs, t, e, d⟩
  | [], ps, f, hf, _ => by
    rw [List.append_nil]
    exact goZ_reads ps ht he hd zs [] f [0, 2, 4] apart_024 (by simp) (by simp) (by simpa using hf) hz
  | p :: qs, ps, f, hf, hp => by
    obtain ⟨f, rfl⟩ : ∃ k, f = k + 1 := ⟨f - 1, by simp at hf; omega⟩
    refine step_word apart_024 (by simp) ?_
    obtain ⟨p0, p1⟩ := hp p (by simp)
    have ih := goP_reads ht he hd zs hz qs (ps ++ [p]) f (by simp at hf; omega) (fun y hy => hp y (by simp [hy]))
    rw [List.append_assoc] at ih
    unfold rgo
    rw [if_pos rfl]
    exact step_num apart_1 (by simp) p0 (step_num apart_7 (by simp) p1 ih)
/-- Fuel beyond the text's length changes nothing: said of what reads. -/
theorem textZ_len (t e d : Nat) : ∀ zs : List (Nat × Nat × Nat), zs.length ≤ (textZ t e d zs).length
  | [] => by simp
  | z :: zs => by have := textZ_len t e d zs; simp [textZ, tailZ, wrd]; omega
theorem textP_len (zs : List (Nat × Nat × Nat)) (t e d : Nat) : ∀ ps : List (Nat × Nat), ps.length + zs.length ≤ (textP zs t e d ps).length
  | [] => by simpa [textP] using textZ_len t e d zs
  | p :: ps => by have := textP_len zs t e d ps; simp [textP, tailP, wrd]; omega

/-- What goes through is a text of this form. -/
theorem go_inv : ∀ (f w : Nat) (ps : List (Nat × Nat)) (zs : List (Nat × Nat × Nat)) (r : List UInt8) (g : Got) (m : Nat), (w = 0 ∨ w = 2 ∨ w = 4) → rgo f w ps zs r = Rd.ok g m →
    ∃ qs ys, g.ps = ps ++ qs ∧ g.zs = zs ++ ys ∧ wrd w ++ r = textP ys g.t g.e g.d qs ∧ (w ≠ 0 → qs = []) ∧ (∀ p ∈ qs, p.1 ≤ 999999999 ∧ p.2 ≤ 999999999) ∧ (∀ z ∈ ys, z.1 ≤ 999999999 ∧ z.2.1 ≤ 999999999 ∧ z.2.2 ≤ 999999999) ∧ g.t ≤ 999999999 ∧ g.e ≤ 999999999 ∧ g.d ≤ 999999999
  | 0, w, ps, zs, r, g, m, _, h => by cases h
  | f + 1, w, ps, zs, r, g, m, hw, h => by
    unfold rgo at h
    by_cases c0 : w = 0
    · subst c0
      rw [if_pos rfl] at h
      obtain ⟨l, w1, x1, m1, l9, hw1, rfl, i1⟩ := inv_num h
      clear h
      obtain ⟨b, w2, x2, m2, b9, hw2, rfl, i2⟩ := inv_num i1
      clear i1
      obtain ⟨w3, x3, m3, hw3, rfl, h⟩ := inv_word i2
      obtain ⟨qs, ys, e1, e2, e3, e4, e5, e6⟩ := go_inv f w3 _ _ _ _ _ (by simpa using hw3) h
      simp only [List.mem_singleton] at hw1 hw2
      subst hw1 hw2
      refine ⟨(l, b) :: qs, ys, by rw [e1, List.append_assoc]; rfl, e2, by rw [e3]; rfl, by simp, ?_, e6⟩
      intro p hp
      rcases List.mem_cons.1 hp with q | q
      · subst q; exact ⟨l9, b9⟩
      · exact e5 p q
    · rw [if_neg c0] at h
      by_cases c2 : w = 2
      · subst c2
        rw [if_pos rfl] at h
        obtain ⟨a, w1, x1, m1, a9, hw1, rfl, i1⟩ := inv_num h
        clear h
        obtain ⟨b, w2, x2, m2, b9, hw2, rfl, i2⟩ := inv_num i1
        clear i1
        obtain ⟨s, w4, x4, m4, s9, hw4, rfl, i3⟩ := inv_num i2
        clear i2
        obtain ⟨w3, x3, m3, hw3, rfl, h⟩ := inv_word i3
        obtain ⟨qs, ys, e1, e2, e3, e4, e5, e6, e7⟩ := go_inv f w3 _ _ _ _ _ (by simp at hw3; omega) h
        have hq : qs = [] := e4 (by simp at hw3; omega)
        subst hq
        simp only [List.mem_singleton] at hw1 hw2 hw4
        subst hw1 hw2 hw4
        refine ⟨[], (a, b, s) :: ys, e1, by rw [e2, List.append_assoc]; rfl, by rw [e3]; rfl, by simp, e5, ?_, e7⟩
        intro p hp
        rcases List.mem_cons.1 hp with q | q
        · subst q; exact ⟨a9, b9, s9⟩
        · exact e6 p q
      · have c4 : w = 4 := by omega
        subst c4
        rw [if_neg c2] at h
        obtain ⟨a, w1, x1, m1, a9, hw1, rfl, i1⟩ := inv_num h
        clear h
        obtain ⟨b, w2, x2, m2, b9, hw2, rfl, i2⟩ := inv_num i1
        clear i1
        obtain ⟨s, w4, x4, m4, s9, hw4, rfl, h⟩ := inv_num i2
        clear i2
        simp only [List.mem_singleton] at hw1 hw2 hw4
        subst hw1 hw2 hw4
        unfold rended at h
        by_cases ce : x4.length = 0
        · rw [if_pos ce] at h
          simp only [Rd.ok, Sum.inr.injEq, Prod.mk.injEq] at h
          obtain ⟨rfl, _⟩ := h
          have : x4 = [] := List.eq_nil_of_length_eq_zero ce
          subst this
          exact ⟨[], [], by simp, by simp, rfl, by simp, by simp, by simp, a9, b9, s9⟩
        · rw [if_neg ce] at h; cases h
theorem read_inv {r : List UInt8} {g : Got} {m : Nat} (h : rtext r = Rd.ok g m) : r = textP g.zs g.t g.e g.d g.ps ∧ Nine g := by
  unfold rtext at h
  obtain ⟨w, x, m1, hw, rfl, h1⟩ := inv_word h
  clear h
  have : w = 0 := by simpa using hw
  subst this
  obtain ⟨qs, ys, e1, e2, e3, e4, e5, e6, e7⟩ := go_inv _ _ _ _ _ _ _ (Or.inl rfl) h1
  rw [List.nil_append] at e1 e2
  subst e1 e2
  exact ⟨e3, e5, e6, e7⟩
/-- Fuel that suffices is xs good xs any other. -/
theorem word_ext {α : Type} {ws : List Nat} {k k' : Nat → List UInt8 → Rd α} {r : List UInt8} (h : ∀ w x, w ∈ ws → x.length < r.length → k w x = k' w x) : rbind (rword ws) k r = rbind (rword ws) k' r := by
  rcases e : rword ws r with b | ⟨w, m⟩
  · rw [rbind_bad e, rbind_bad e]
  ·
    obtain ⟨h1, h2, x, hx⟩ := wordFrom_inv 0 e
    rw [rbind_ok e, rbind_ok e, h w _ h1]
    have : 0 < (wrd w).length := by unfold wrd; split <;> simp
    subst h2 hx
    simp
    omega
theorem num_ext {α : Type} {ws : List Nat} {k k' : Nat → Nat → List UInt8 → Rd α} {r : List UInt8} (h : ∀ n w x, w ∈ ws → x.length < r.length → k n w x = k' n w x) : numW ws k r = numW ws k' r := by
  unfold numW
  rcases e : rnum r with b | ⟨a, m⟩
  · rw [rbind_bad e, rbind_bad e]
  ·
    rw [rbind_ok e, rbind_ok e]
    congr 1
    refine word_ext fun w x hw hx => h a w x hw ?_
    simp at hx
    omega
theorem go_fuel : ∀ (f f' w : Nat) (ps : List (Nat × Nat)) (zs : List (Nat × Nat × Nat)) (r : List UInt8), r.length < f → r.length < f' → rgo f w ps zs r = rgo f' w ps zs r
  | 0, _, _, _, _, _, h, _ => by omega
  | _ + 1, 0, _, _, _, _, _, h => by omega
  | f + 1, f' + 1, w, ps, zs, r, h, h' => by
    unfold rgo
    by_cases c0 : w = 0
    · rw [if_pos c0, if_pos c0]
      exact num_ext fun _ _ _ _ h1 => num_ext fun _ _ _ _ h2 => word_ext fun _ _ _ h3 => go_fuel _ _ _ _ _ _ (by omega) (by omega)
    · rw [if_neg c0, if_neg c0]
      by_cases c2 : w = 2
      · rw [if_pos c2, if_pos c2]
        exact num_ext fun _ _ _ _ h1 => num_ext fun _ _ _ _ h2 => num_ext fun _ _ _ _ h4 => word_ext fun _ _ _ h3 => go_fuel _ _ _ _ _ _ (by omega) (by omega)
      · rw [if_neg c2, if_neg c2]
/-- A text is rtext xs what it was made of; cut, at fault at its end. -/
theorem read_text {g : Got} (h9 : Nine g) (hp : g.ps ≠ []) : RdAll rtext (textP g.zs g.t g.e g.d g.ps) g := by
  obtain ⟨ps, zs, t, e, d⟩ := g
  obtain ⟨h1, h2, h3, h4, h5⟩ := h9
  simp only at h1 h2 h3 h4 h5 hp ⊢
  cases ps with
  | nil => exact absurd rfl hp
  | cons p ps =>
    intro j
    obtain ⟨F, hF⟩ : ∃ F, F = ((textP zs t e d (p :: ps)).take j).length + ps.length + zs.length + 5 := ⟨_, rfl⟩
    have hR : RdAll (rbind (rword [0]) fun w => rgo (F + 1) w [] []) (textP zs t e d (p :: ps)) ⟨p :: ps, zs, t, e, d⟩ := by
      refine step_word apart_0 (by simp) ?_
      obtain ⟨p0, p1⟩ := h1 p (by simp)
      have ih := goP_reads h3 h4 h5 zs h2 ps ([] ++ [p]) F (by omega) (fun y hy => h1 y (by simp [hy]))
      unfold rgo
      rw [if_pos rfl]
      exact step_num apart_1 (by simp) p0 (step_num apart_7 (by simp) p1 ih)
    rw [← hR j]
    unfold rtext
    exact word_ext fun w x _ hx => go_fuel _ _ _ _ _ _ (by omega) (by omega)

end Go.Proofs.YteodefmpkljedaaDoor
