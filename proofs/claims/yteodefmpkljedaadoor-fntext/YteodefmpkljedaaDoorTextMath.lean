/-
  Numbers as digits: one form for each.
-/
import Derived.Test.YteodefmpkljedaaDoorSpecText
namespace Go.Proofs.YteodefmpkljedaaDoor
set_option linter.unusedVariables false

def isDig (c : UInt8) : Prop := 48 ≤ c.toNat ∧ c.toNat ≤ 57
/-- What digits say. -/
def valL (l : List UInt8) : Nat := l.foldl (fun a c => 10 * a + (c.toNat - 48)) 0
theorem valL_snoc (l : List UInt8) (c : UInt8) : valL (l ++ [c]) = 10 * valL l + (c.toNat - 48) := by simp [valL]
theorem dig_nat {d : Nat} (h : d < 10) : (UInt8.ofNat (48 + d)).toNat = 48 + d := by rw [UInt8.toNat_ofNat']; omega
theorem decL_dig (n : Nat) : ∀ c ∈ decL n, isDig c := by
  induction n using Nat.strongRecOn with
  | ind n ih =>
    intro c hc
    rw [decL] at hc
    by_cases h : n < 10
    · rw [if_pos h] at hc
      rw [List.mem_singleton] at hc
      subst hc
      have := dig_nat h
      unfold isDig
      omega
    · rw [if_neg h, List.mem_append] at hc
      rcases hc with hc | hc
      · exact ih (n / 10) (by omega) c hc
      · rw [List.mem_singleton] at hc
        subst hc
        have := dig_nat (d := n % 10) (by omega)
        unfold isDig
        omega
theorem decL_val (n : Nat) : valL (decL n) = n := by
  induction n using Nat.strongRecOn with
  | ind n ih =>
    rw [decL]
    by_cases h : n < 10
    · rw [if_pos h]
      have := dig_nat h
      simp only [valL, List.foldl_cons, List.foldl_nil]
      omega
    · rw [if_neg h, valL_snoc, ih (n / 10) (by omega), dig_nat (d := n % 10) (by omega)]
      omega
/-- The form of a number: digits, no zero ahead of others. -/
def Numeral (l : List UInt8) : Prop := l ≠ [] ∧ (∀ c ∈ l, isDig c) ∧ (l.head? = some 48 → l = [48])
theorem decL_zero : decL 0 = [48] := by rw [decL]; rfl
theorem decL_ne (n : Nat) : decL n ≠ [] := by intro h; have := decL_pos n; rw [h] at this; simp at this
theorem decL_head (n : Nat) (hn : 0 < n) : (decL n).head? ≠ some 48 := by
  induction n using Nat.strongRecOn with
  | ind n ih =>
    rw [decL]
    by_cases h : n < 10
    · rw [if_pos h]
      intro e
      have e2 : UInt8.ofNat (48 + n) = 48 := by simpa using e
      have := dig_nat h
      rw [e2] at this
      have : (48 : UInt8).toNat = 48 := rfl
      omega
    · rw [if_neg h]
      have := ih (n / 10) (by omega) (by omega)
      rw [List.head?_append]
      cases hd : (decL (n / 10)).head? with
      | none => exact absurd (List.head?_eq_none_iff.1 hd) (decL_ne _)
      | some c => rw [hd] at this; simpa using this
theorem decL_numeral (n : Nat) : Numeral (decL n) := by
  refine ⟨decL_ne n, decL_dig n, fun h => ?_⟩
  rcases Nat.eq_zero_or_pos n with e | e
  · subst e; exact decL_zero
  · exact absurd h (decL_head n e)
theorem last_of : ∀ {l : List UInt8}, l ≠ [] → ∃ r c, l = r ++ [c]
  | [], h => absurd rfl h
  | [c], _ => ⟨[], c, rfl⟩
  | a :: b :: t, _ => by
    obtain ⟨r, c, e⟩ := last_of (l := b :: t) (by simp)
    exact ⟨a :: r, c, by rw [e]; rfl⟩
theorem valL_pos {l : List UInt8} (h : l ≠ []) (hd : ∀ c ∈ l, isDig c) (h0 : l.head? ≠ some 48) : 0 < valL l := by
  obtain ⟨n, hn⟩ : ∃ n, l.length = n := ⟨_, rfl⟩
  induction n generalizing l with
  | zero => exact absurd (List.eq_nil_of_length_eq_zero hn) h
  | succ n ih =>
    obtain ⟨r, c, rfl⟩ := last_of h
    have hlr : r.length = n := by rw [List.length_append] at hn; simp at hn; exact hn
    rw [valL_snoc]
    by_cases hl : r = []
    · subst hl
      have h1 := hd c (by simp)
      have h2 : c.toNat ≠ 48 := fun e => h0 (by
        simp only [List.nil_append, List.head?_cons]
        exact congrArg some (UInt8.toNat_inj.1 e))
      unfold isDig at h1
      omega
    · have := ih hl (fun c hc => hd c (List.mem_append_left _ hc)) (fun e => h0 (by rw [List.head?_append, e]; rfl)) hlr
      omega
/-- A numeral is the digits of what it says. -/
theorem numeral_dec {l : List UInt8} (h : Numeral l) : decL (valL l) = l := by
  obtain ⟨n, hn⟩ : ∃ n, l.length = n := ⟨_, rfl⟩
  induction n generalizing l with
  | zero => exact absurd (List.eq_nil_of_length_eq_zero hn) h.1
  | succ n ih =>
    obtain ⟨h1, h2, h3⟩ := h
    obtain ⟨r, c, rfl⟩ := last_of h1
    have hlr : r.length = n := by rw [List.length_append] at hn; simp at hn; exact hn
    have hcd : isDig c := h2 c (by simp)
    have hcc : UInt8.ofNat (48 + (c.toNat - 48)) = c := by
      unfold isDig at hcd
      rw [show 48 + (c.toNat - 48) = c.toNat by omega]
      simp
    unfold isDig at hcd
    rw [valL_snoc]
    by_cases hl : r = []
    · subst hl
      rw [decL, if_pos (by simp [valL]; omega)]
      simp only [valL, List.foldl_nil, Nat.mul_zero, Nat.zero_add, List.nil_append]
      rw [hcc]
    · have hh : r.head? ≠ some 48 := fun e => by
        have := h3 (by rw [List.head?_append, e]; rfl)
        have h4 := congrArg List.length this
        simp at h4
        exact hl h4
      have hv := valL_pos hl (fun x hx => h2 x (List.mem_append_left _ hx)) hh
      rw [decL, if_neg (by omega), show (10 * valL r + (c.toNat - 48)) / 10 = valL r by omega, show (10 * valL r + (c.toNat - 48)) % 10 = c.toNat - 48 by omega, hcc, ih ⟨hl, fun x hx => h2 x (List.mem_append_left _ hx), fun e => absurd e hh⟩ hlr]

end Go.Proofs.YteodefmpkljedaaDoor
