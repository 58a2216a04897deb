/-
  Reading a text step by step: the model's way (a fault is kept) and the program's (it leaves at once).
-/
import Derived.Test.YteodefmpkljedaaDoorTextProf
namespace Go.Proofs.YteodefmpkljedaaDoor
set_option linter.unusedVariables false

/-- A number as the model reads it: n so far, of k digits. -/
def numSF : Nat → Nat → List UInt8 → Rd Nat
  | n, k, [] => if k = 0 then Rd.bad 0 else Rd.ok n k
  | n, k, c :: r => if 48 ≤ c.toNat ∧ c.toNat ≤ 57 then (if k = 9 ∨ (0 < k ∧ n = 0) then Rd.bad k else numSF (10 * n + (c.toNat - 48)) (k + 1) r) else if k = 0 then Rd.bad 0 else Rd.ok n k
def numS (r : List UInt8) : Rd Nat := numSF 0 0 r
def DigHead (r : List UInt8) : Prop := ∃ c t, r = c :: t ∧ isDig c
theorem numGo_cons (k n : Nat) (c : UInt8) (r : List UInt8) : numGo (k + 1) n (c :: r) = if 0 < n ∧ 48 ≤ c.toNat ∧ c.toNat ≤ 57 then ((numGo k (n * 10 + (c.toNat - 48)) r).1, (numGo k (n * 10 + (c.toNat - 48)) r).2 + 1) else (n, 0) := rfl
theorem numSF_go : ∀ (r : List UInt8) (n k : Nat), 1 ≤ k → k ≤ 9 → (DigHead (r.drop (numGo (9 - k) n r).2) → numSF n k r = Rd.bad (k + (numGo (9 - k) n r).2)) ∧ (¬ DigHead (r.drop (numGo (9 - k) n r).2) → numSF n k r = Rd.ok (numGo (9 - k) n r).1 (k + (numGo (9 - k) n r).2))
  | [], n, k, h1, h9 => by
    have e : numGo (9 - k) n [] = (n, 0) := by
      cases 9 - k <;> rfl
    rw [e]
    refine ⟨fun q => ?_, fun _ => ?_⟩
    · obtain ⟨c, t, h, _⟩ := q
      simp at h
    · unfold numSF
      rw [if_neg (by omega)]
      rfl
  | c :: r, n, k, h1, h9 => by
    by_cases hd : 48 ≤ c.toNat ∧ c.toNat ≤ 57
    · by_cases hk : k = 9 ∨ (0 < k ∧ n = 0)
      · have e : numGo (9 - k) n (c :: r) = (n, 0) := by
          rcases Nat.eq_zero_or_pos (9 - k) with z | z
          · rw [z]; rfl
          · obtain ⟨m, hm⟩ : ∃ m, 9 - k = m + 1 := ⟨9 - k - 1, by omega⟩
            rw [hm]
            unfold numGo
            rw [if_neg (by omega)]
        rw [e]
        refine ⟨fun _ => ?_, fun h => absurd ⟨c, r, rfl, hd⟩ h⟩
        unfold numSF
        rw [if_pos hd, if_pos hk]
        rfl
      · obtain ⟨m, hm⟩ : ∃ m, 9 - k = m + 1 := ⟨9 - k - 1, by omega⟩
        have ih := numSF_go r (10 * n + (c.toNat - 48)) (k + 1) (by omega) (by omega)
        rw [show 9 - (k + 1) = m by omega] at ih
        have e : numGo (9 - k) n (c :: r) = ((numGo m (10 * n + (c.toNat - 48)) r).1, (numGo m (10 * n + (c.toNat - 48)) r).2 + 1) := by
          rw [hm, Nat.mul_comm 10 n, numGo_cons, if_pos ⟨by omega, hd⟩]
        rw [e]
        unfold numSF
        rw [if_pos hd, if_neg hk]
        simp only [List.drop_succ_cons]
        rw [show k + ((numGo m (10 * n + (c.toNat - 48)) r).2 + 1) = k + 1 + (numGo m (10 * n + (c.toNat - 48)) r).2 by omega]
        exact ih
    · have e : numGo (9 - k) n (c :: r) = (n, 0) := by
        cases 9 - k with
        | zero => rfl
        | succ m =>
          unfold numGo
          rw [if_neg (fun q => hd q.2)]
      rw [e]
      refine ⟨fun ⟨c', t, h, hc⟩ => ?_, fun _ => ?_⟩
      · simp only [List.drop_zero, List.cons.injEq] at h
        rw [← h.1] at hc
        exact absurd hc hd
      · unfold numSF
        rw [if_neg hd, if_neg (by omega)]
        rfl
theorem numS_rnum (r : List UInt8) : (∀ m, rnum r = Rd.bad m → numS r = Rd.bad m) ∧ (∀ n m, rnum r = Rd.ok n m → (DigHead (r.drop m) → numS r = Rd.bad m) ∧ (¬ DigHead (r.drop m) → numS r = Rd.ok n m)) := by
  cases r with
  | nil => exact ⟨fun m h => by rw [← h]; rfl, fun n m h => by cases h⟩
  | cons c r =>
    have er : rnum (c :: r) = if 48 ≤ c.toNat ∧ c.toNat ≤ 57 then Rd.ok (numGo 8 (c.toNat - 48) r).1 ((numGo 8 (c.toNat - 48) r).2 + 1) else Rd.bad 0 := rfl
    rw [er]
    unfold numS numSF
    by_cases hd : 48 ≤ c.toNat ∧ c.toNat ≤ 57
    · rw [if_pos hd, if_pos hd, if_neg (by omega)]
      refine ⟨fun m h => (by cases h), fun n m h => ?_⟩
      simp only [Rd.ok, Sum.inr.injEq, Prod.mk.injEq] at h
      have := numSF_go r (10 * 0 + (c.toNat - 48)) (0 + 1) (by omega) (by omega)
      rw [show 10 * 0 + (c.toNat - 48) = c.toNat - 48 by omega, show 9 - (0 + 1) = 8 by omega] at this
      rw [show 10 * 0 + (c.toNat - 48) = c.toNat - 48 by omega, ← h.1, ← h.2]
      rw [show (numGo 8 (c.toNat - 48) r).2 + 1 = 0 + 1 + (numGo 8 (c.toNat - 48) r).2 by omega]
      rw [show (c :: r).drop (0 + 1 + (numGo 8 (c.toNat - 48) r).2) = r.drop (numGo 8 (c.toNat - 48) r).2 by rw [Nat.add_comm (0 + 1)]; rfl]
      exact this
    · rw [if_neg hd, if_neg hd, if_pos rfl]
      exact ⟨fun m h => h, fun n m h => by cases h⟩
/-- Where a word comes next both read alike. -/
theorem numS_then {α : Type} {ws : List Nat} (ha : Apart ws) (k : Nat → Nat → List UInt8 → Rd α) (r : List UInt8) : rbind numS (fun n => rbind (rword ws) fun w => k n w) r = numW ws k r := by
  unfold numW
  obtain ⟨h1, h2⟩ := numS_rnum r
  rcases e : rnum r with m | ⟨n, m⟩
  · rw [rbind_bad e, rbind_bad (h1 m e)]
  · obtain ⟨g1, g2⟩ := h2 n m e
    rw [rbind_ok e]
    by_cases c : DigHead (r.drop m)
    · rw [rbind_bad (g1 c), rbind_bad (word_digit ha.2 (Or.inr c))]
      rfl
    · rw [rbind_ok (g2 c)]

/-- Where the model's reader stands: at a place, past a fault or not. -/
def RAt {α : Type} (t : List UInt8) (i : Nat) (b : Int) (k : List UInt8 → Rd α) (R : Rd α) : Prop :=
  i ≤ t.length ∧ ((0 ≤ b ∧ b ≤ t.length ∧ R = Rd.bad b.toNat) ∨ (b = -1 ∧ R = (k (t.drop i)).shift i))
theorem RAt.past {α : Type} {t : List UInt8} {i : Nat} {b : Int} {k k' : List UInt8 → Rd α} {R : Rd α} (h : RAt t i b k R) (hb : 0 ≤ b) : RAt t i b k' R := by
  obtain ⟨h1, h2⟩ := h
  refine ⟨h1, Or.inl ?_⟩
  rcases h2 with h2 | h2
  · exact h2
  · omega
theorem drop_len {t : List UInt8} {i n : Nat} {s x : List UInt8} (h : t.drop i = s ++ x) (hi : i ≤ t.length) : i + s.length ≤ t.length ∧ t.drop (i + s.length) = x := by
  constructor
  · have := congrArg List.length h
    rw [List.length_drop, List.length_append] at this
    omega
  · rw [← List.drop_drop, h, List.drop_left]
theorem RAt.must {α : Type} {t : List UInt8} {i id : Nat} {k : List UInt8 → Rd α} {R : Rd α} (h : RAt t i (-1) (rbind (rword [id]) fun _ => k) R) :
    (alikeN (t.drop i) (wrd id) = (wrd id).length → RAt t (i + (wrd id).length) (-1) k R) ∧ (alikeN (t.drop i) (wrd id) < (wrd id).length → RAt t (i + alikeN (t.drop i) (wrd id)) ((i + alikeN (t.drop i) (wrd id) : Nat) : Int) k R) := by
  obtain ⟨hi, h2⟩ := h
  have h2 : R = ((rbind (rword [id]) fun _ => k) (t.drop i)).shift i := by
    rcases h2 with h2 | h2
    · omega
    · exact h2.2
  have hle := alike_le_l (t.drop i) (wrd id)
  rw [List.length_drop] at hle
  constructor
  · intro c
    obtain ⟨x, hx⟩ := alike_full _ _ c
    obtain ⟨g1, g2⟩ := drop_len (n := 0) hx hi
    refine ⟨g1, Or.inr ⟨rfl, ?_⟩⟩
    have hw : rword [id] (t.drop i) = Rd.ok id (wrd id).length := by unfold rword wordFrom; rw [if_pos c]
    rw [h2, rbind_ok hw, Rd.shift_shift, List.drop_drop]
  · intro c
    have hw : rword [id] (t.drop i) = Rd.bad (alikeN (t.drop i) (wrd id)) := by
      unfold rword wordFrom
      rw [if_neg (by omega)]
      unfold wordFrom
      rw [Nat.zero_max]
    refine ⟨by omega, Or.inl ⟨by omega, by omega, ?_⟩⟩
    rw [h2, rbind_bad hw]
    show Rd.bad _ = Rd.bad _
    congr 1
theorem RAt.num {α : Type} {t : List UInt8} {i : Nat} {k : Nat → List UInt8 → Rd α} {R : Rd α} (h : RAt t i (-1) (rbind numS k) R) :
    (∀ n m, numS (t.drop i) = Rd.ok n m → i + m ≤ t.length → RAt t (i + m) (-1) (k n) R) ∧ (∀ n m, numS (t.drop i) = Rd.bad m → i + m ≤ t.length → RAt t (i + m) ((i + m : Nat) : Int) (k n) R) := by
  obtain ⟨hi, h2⟩ := h
  have h2 : R = ((rbind numS k) (t.drop i)).shift i := by
    rcases h2 with h2 | h2
    · omega
    · exact h2.2
  constructor
  · intro n m e hm
    exact ⟨hm, Or.inr ⟨rfl, by rw [h2, rbind_ok e, Rd.shift_shift, List.drop_drop]⟩⟩
  · intro n m e hm
    refine ⟨hm, Or.inl ⟨by omega, by omega, ?_⟩⟩
    rw [h2, rbind_bad e]
    show Rd.bad _ = Rd.bad _
    congr 1
theorem RAt.word {α : Type} {t : List UInt8} {i : Nat} {ws : List Nat} {k : Nat → List UInt8 → Rd α} {R : Rd α} (h : RAt t i (-1) (rbind (rword ws) k) R) :
    (∀ w m, rword ws (t.drop i) = Rd.ok w m → i + m ≤ t.length ∧ RAt t (i + m) (-1) (k w) R) ∧ (∀ m k', rword ws (t.drop i) = Rd.bad m → i + m ≤ t.length → RAt t i ((i + m : Nat) : Int) k' R) := by
  obtain ⟨hi, h2⟩ := h
  have h2 : R = ((rbind (rword ws) k) (t.drop i)).shift i := by
    rcases h2 with h2 | h2
    · omega
    · exact h2.2
  constructor
  · intro w m e
    obtain ⟨h1, h3, x, hx⟩ := wordFrom_inv 0 e
    obtain ⟨g1, g2⟩ := drop_len (n := 0) hx hi
    rw [← h3] at g1
    exact ⟨g1, g1, Or.inr ⟨rfl, by rw [h2, rbind_ok e, Rd.shift_shift, List.drop_drop]⟩⟩
  · intro m k' e hm
    refine ⟨hi, Or.inl ⟨by omega, by omega, ?_⟩⟩
    rw [h2, rbind_bad e]
    show Rd.bad _ = Rd.bad _
    congr 1
theorem RAt.end_ {t : List UInt8} {i : Nat} {g : Got} {R : Rd Got} (h : RAt t i (-1) (rended g) R) : (i < t.length → R = Rd.bad i) ∧ (i = t.length → R = Rd.ok g i) := by
  obtain ⟨hi, h2⟩ := h
  have h2 : R = (rended g (t.drop i)).shift i := by
    rcases h2 with h2 | h2
    · omega
    · exact h2.2
  unfold rended at h2
  rw [List.length_drop] at h2
  constructor
  · intro c
    rw [h2, if_neg (by omega)]
    rfl
  · intro c
    rw [h2, if_pos (by omega)]
    rfl
theorem RAt.congr {α : Type} {t : List UInt8} {i : Nat} {b : Int} {k k' : List UInt8 → Rd α} {R : Rd α} (h : RAt t i b k R) (e : ∀ r, k r = k' r) : RAt t i b k' R := by
  obtain ⟨h1, h2⟩ := h
  exact ⟨h1, h2.imp (fun q => q) (fun q => ⟨q.1, by rw [← e]; exact q.2⟩)⟩
theorem RAt.bad_val {α : Type} {t : List UInt8} {i : Nat} {b : Int} {k : List UInt8 → Rd α} {R : Rd α} (h : RAt t i b k R) (hb : 0 ≤ b) : R = Rd.bad b.toNat ∧ b ≤ t.length := by
  rcases h.2 with ⟨_, h1, h2⟩ | ⟨h1, _⟩
  · exact ⟨h2, h1⟩
  · omega

end Go.Proofs.YteodefmpkljedaaDoor
