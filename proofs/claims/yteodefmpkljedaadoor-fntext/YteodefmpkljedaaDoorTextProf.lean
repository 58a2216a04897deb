/-
  A profile and its text: what a text tells.
-/
import Derived.Test.YteodefmpkljedaaDoorTextRead
namespace Go.Proofs.YteodefmpkljedaaDoor
set_option linter.unusedVariables false

/-- Two profiles that rtext alikeN. -/
def Same (P Q : Prof) : Prop := P.np = Q.np ∧ P.nz = Q.nz ∧ P.train = Q.train ∧ P.fin = Q.fin ∧ P.delay = Q.delay ∧ (∀ j, j < P.np → P.L j = Q.L j ∧ P.B j = Q.B j) ∧ (∀ j, j < P.nz → P.F j = Q.F j ∧ P.T j = Q.T j ∧ P.S j = Q.S j)
theorem Same.refl (P : Prof) : Same P P := ⟨rfl, rfl, rfl, rfl, rfl, fun _ _ => ⟨rfl, rfl⟩, fun _ _ => ⟨rfl, rfl, rfl⟩⟩
theorem Same.symm {P Q : Prof} (h : Same P Q) : Same Q P := by
  obtain ⟨h1, h2, h3, h4, h5, h6, h7⟩ := h
  refine ⟨h1.symm, h2.symm, h3.symm, h4.symm, h5.symm, fun j hj => ?_, fun j hj => ?_⟩
  · obtain ⟨a, b⟩ := h6 j (by omega); exact ⟨a.symm, b.symm⟩
  · obtain ⟨a, b, c⟩ := h7 j (by omega); exact ⟨a.symm, b.symm, c.symm⟩
theorem sumTo_same {L M : Nat → Int} : ∀ n, (∀ j, j < n → L j = M j) → sumTo L n = sumTo M n
  | 0, _ => rfl
  | n + 1, h => by rw [sumTo, sumTo, sumTo_same n (fun j hj => h j (by omega)), h n (by omega)]
theorem Same.total {P Q : Prof} (h : Same P Q) : P.total = Q.total := by
  unfold Prof.total
  rw [← h.1]
  exact sumTo_same _ fun j hj => (h.2.2.2.2.2.1 j hj).1
theorem Same.ok {P Q : Prof} (h : Same P Q) (k : P.Ok) : Q.Ok := by
  have ht := h.total
  obtain ⟨h1, h2, h3, h4, h5, h6, h7⟩ := h
  obtain ⟨k1, k2, k3, k4, k5, k6⟩ := k
  refine ⟨⟨by rw [← h1]; exact k1.1, by rw [← h1]; exact k1.2.1, by rw [← h2]; exact k1.2.2⟩, fun j hj => ?_, fun j hj => ?_, by rw [← h3]; exact k4, by rw [← h4, ← ht]; exact k5, by rw [← h5]; exact k6⟩
  · obtain ⟨a, b⟩ := h6 j (by omega)
    rw [← a, ← b]
    exact k2 j (by omega)
  · obtain ⟨a, b, c⟩ := h7 j (by omega)
    rw [← a, ← b, ← c, ← ht]
    exact k3 j (by omega)
theorem Row2.same {w : World} {a : Option Addr} {n : Nat} {L B L' B' : Nat → Int} (h : Row2 w a n L B) (k : ∀ j, j < n → L j = L' j ∧ B j = B' j) : Row2 w a n L' B' := by
  rcases h with h | ⟨b, off, e, hl, hc⟩
  · exact Or.inl h
  · exact Or.inr ⟨b, off, e, hl, fun j hj => by rw [← (k j hj).1, ← (k j hj).2]; exact hc j hj⟩
theorem Row3.same {w : World} {a : Option Addr} {n : Nat} {F T S F' T' S' : Nat → Int} (h : Row3 w a n F T S) (k : ∀ j, j < n → F j = F' j ∧ T j = T' j ∧ S j = S' j) : Row3 w a n F' T' S' := by
  rcases h with h | ⟨b, off, e, hl, hc⟩
  · exact Or.inl h
  · exact Or.inr ⟨b, off, e, hl, fun j hj => by rw [← (k j hj).1, ← (k j hj).2.1, ← (k j hj).2.2]; exact hc j hj⟩
theorem Prof.Lies.same {P Q : Prof} {w : World} {v : Value} (h : P.Lies w v) (s : Same P Q) : Q.Lies w v := by
  obtain ⟨ap, cp, az, cz, rfl, k1, k2, k3, k4⟩ := h
  obtain ⟨h1, h2, h3, h4, h5, h6, h7⟩ := s
  refine ⟨ap, cp, az, cz, by rw [h1, h2, h3, h4, h5], by rw [← h1]; exact k1, by rw [← h2]; exact k2, ?_, ?_⟩
  · rw [← h1]; exact k3.same h6
  · rw [← h2]; exact k4.same h7

/-- What stands in a profile, as lists of numbers. -/
def Prof.psOf (P : Prof) : List (Nat × Nat) := (List.range P.np).map fun j => ((P.L j).toNat, (P.B j).toNat)
def Prof.zsOf (P : Prof) : List (Nat × Nat × Nat) := (List.range P.nz).map fun j => ((P.F j).toNat, (P.T j).toNat, (P.S j).toNat)
def Prof.gotOf (P : Prof) : Got := ⟨P.psOf, P.zsOf, P.train.toNat, P.fin.toNat, P.delay.toNat⟩
def profOf (g : Got) : Prof where
  np := g.ps.length
  L := fun j => (((g.ps[j]?).getD (0, 0)).1 : Nat)
  B := fun j => (((g.ps[j]?).getD (0, 0)).2 : Nat)
  nz := g.zs.length
  F := fun j => (((g.zs[j]?).getD (0, 0, 0)).1 : Nat)
  T := fun j => (((g.zs[j]?).getD (0, 0, 0)).2.1 : Nat)
  S := fun j => (((g.zs[j]?).getD (0, 0, 0)).2.2 : Nat)
  train := (g.t : Nat)
  fin := (g.e : Nat)
  delay := (g.d : Nat)
theorem linesTo_flat (f : Nat → List UInt8) : ∀ k, linesTo f k = ((List.range k).map f).flatten
  | 0 => rfl
  | k + 1 => by rw [linesTo, linesTo_flat f k, List.range_succ, List.map_append, List.flatten_append]; simp
theorem textZ_flat (t e d : Nat) : ∀ zs : List (Nat × Nat × Nat), textZ t e d zs = (zs.map fun z => wrd 2 ++ tailZ z []).flatten ++ (wrd 4 ++ tailT t e d)
  | [] => rfl
  | z :: zs => by rw [textZ, textZ_flat t e d zs]; simp [tailZ]
theorem textP_flat (zs : List (Nat × Nat × Nat)) (t e d : Nat) : ∀ ps : List (Nat × Nat), textP zs t e d ps = (ps.map fun p => wrd 0 ++ tailP p []).flatten ++ textZ t e d zs
  | [] => rfl
  | p :: ps => by rw [textP, textP_flat zs t e d ps]; simp [tailP]
def textOf (g : Got) : List UInt8 := textP g.zs g.t g.e g.d g.ps
theorem Prof.textL_of (P : Prof) : P.textL = textOf P.gotOf := by
  unfold textOf Prof.textL
  rw [textP_flat, textZ_flat, linesTo_flat, linesTo_flat]
  unfold Prof.gotOf Prof.psOf Prof.zsOf
  simp only [List.map_map, List.append_assoc]
  congr 1
  · congr 2
    funext j
    simp [Prof.lineP, tailP, wrd]
  · congr 1
    · congr 2
      funext j
      simp [Prof.lineZ, tailZ, wrd]
    · simp [Prof.lineT, tailT, wrd]
theorem same_of_ok {P : Prof} (h : P.Ok) : Same (profOf P.gotOf) P := by
  obtain ⟨k1, k2, k3, k4, k5, k6⟩ := h
  refine ⟨by simp [profOf, Prof.gotOf, Prof.psOf], by simp [profOf, Prof.gotOf, Prof.zsOf], ?_, ?_, ?_, fun j hj => ?_, fun j hj => ?_⟩
  · show ((P.train.toNat : Nat) : Int) = _; omega
  · show ((P.fin.toNat : Nat) : Int) = _; omega
  · show ((P.delay.toNat : Nat) : Int) = _; omega
  · have hj' : j < P.np := by simpa [profOf, Prof.gotOf, Prof.psOf] using hj
    obtain ⟨⟨a, _⟩, ⟨b, _⟩⟩ := k2 j hj'
    simp [profOf, Prof.gotOf, Prof.psOf, hj']
    omega
  · have hj' : j < P.nz := by simpa [profOf, Prof.gotOf, Prof.zsOf] using hj
    obtain ⟨⟨a, _⟩, ⟨b, _⟩, ⟨c, _⟩⟩ := k3 j hj'
    simp [profOf, Prof.gotOf, Prof.zsOf, hj']
    omega
theorem nine_of_ok {P : Prof} (h : P.Ok) : Nine P.gotOf := by
  have ht := (Prof.total_bounds h.lens).2
  obtain ⟨k1, k2, k3, k4, k5, k6⟩ := h
  refine ⟨fun p hp => ?_, fun z hz => ?_, ?_, ?_, ?_⟩
  · obtain ⟨j, hj, rfl⟩ := List.mem_map.1 hp
    rw [List.mem_range] at hj
    have := k2 j hj
    simp only
    omega
  · obtain ⟨j, hj, rfl⟩ := List.mem_map.1 hz
    rw [List.mem_range] at hj
    have := k3 j hj
    simp only
    omega
  · show P.train.toNat ≤ _; omega
  · show P.fin.toNat ≤ _; omega
  · show P.delay.toNat ≤ _; omega
theorem got_of_same {g : Got} {P : Prof} (h : Same (profOf g) P) : g = P.gotOf := by
  obtain ⟨ps, zs, t, e, d⟩ := g
  obtain ⟨h1, h2, h3, h4, h5, h6, h7⟩ := h
  unfold Prof.gotOf
  have e3 : (t : Int) = P.train := h3
  have e4 : (e : Int) = P.fin := h4
  have e5 : (d : Int) = P.delay := h5
  have e1 : ps.length = P.np := h1
  have e2 : zs.length = P.nz := h2
  congr 1
  · apply List.ext_getElem?
    intro j
    by_cases c : j < P.np
    · have := h6 j (by show j < ps.length; omega)
      obtain ⟨a, b⟩ := this
      have c' : j < ps.length := by omega
      simp only [profOf, List.getElem?_eq_getElem c', Option.getD_some] at a b
      unfold Prof.psOf
      rw [List.getElem?_map, List.getElem?_range c, List.getElem?_eq_getElem c']
      simp only [Option.map_some, Option.some.injEq]
      exact Prod.ext (by simp only; omega) (by simp only; omega)
    · rw [List.getElem?_eq_none (by omega), List.getElem?_eq_none (by simp [Prof.psOf]; omega)]
  · apply List.ext_getElem?
    intro j
    by_cases c : j < P.nz
    · have := h7 j (by show j < zs.length; omega)
      obtain ⟨a, b, b'⟩ := this
      have c' : j < zs.length := by omega
      simp only [profOf, List.getElem?_eq_getElem c', Option.getD_some] at a b b'
      unfold Prof.zsOf
      rw [List.getElem?_map, List.getElem?_range c, List.getElem?_eq_getElem c']
      simp only [Option.map_some, Option.some.injEq]
      exact Prod.ext (by simp only; omega) (Prod.ext (by simp only; omega) (by simp only; omega))
    · rw [List.getElem?_eq_none (by omega), List.getElem?_eq_none (by simp [Prof.zsOf]; omega)]
  · omega
  · omega
  · omega

/-- What ReadProfile tells: Code, At, the profile. -/
structure Tld where
  code : Int
  at_ : Int
  P : Prof
def zeroP : Prof := ⟨0, fun _ => 0, fun _ => 0, 0, fun _ => 0, fun _ => 0, fun _ => 0, 0, 0, 0⟩
def toldOf : Rd Got → Tld
  | .inl n => ⟨1, n, zeroP⟩
  | .inr p => if (profOf p.1).code = 0 then ⟨0, 0, profOf p.1⟩ else ⟨1 + (profOf p.1).code, 0, zeroP⟩
theorem toldOf_bad (n : Nat) : toldOf (.inl n) = ⟨1, n, zeroP⟩ := rfl
theorem toldOf_ok {g : Got} (m : Nat) (h : (profOf g).code = 0) : toldOf (.inr (g, m)) = ⟨0, 0, profOf g⟩ := if_pos h
theorem toldOf_wrong {g : Got} (m : Nat) (h : ¬ (profOf g).code = 0) : toldOf (.inr (g, m)) = ⟨1 + (profOf g).code, 0, zeroP⟩ := if_neg h
def told (l : List UInt8) : Tld := if 3000 < l.length then ⟨1, 3000, zeroP⟩ else toldOf (rtext l)
theorem told_text {P : Prof} (h : P.Ok) (hl : P.textL.length ≤ 3000) : (told P.textL).code = 0 ∧ Same (told P.textL).P P := by
  have hp : P.gotOf.ps ≠ [] := by
    intro e
    have := congrArg List.length e
    have := h.counts.1
    simp [Prof.gotOf, Prof.psOf] at *
    omega
  have hr := read_text (nine_of_ok h) hp P.textL.length
  rw [P.textL_of] at hr hl ⊢
  unfold textOf at *
  rw [List.take_of_length_le (Nat.le_refl _), if_neg (by omega)] at hr
  have hc : (profOf P.gotOf).code = 0 := Prof.code_ok ((same_of_ok h).symm.ok h)
  unfold told
  rw [if_neg (by omega), hr, toldOf_ok _ hc]
  exact ⟨rfl, same_of_ok h⟩
theorem told_cut {P : Prof} (h : P.Ok) (hl : P.textL.length ≤ 3000) {k : Nat} (hk : k < P.textL.length) : told (P.textL.take k) = ⟨1, k, zeroP⟩ := by
  have hp : P.gotOf.ps ≠ [] := by
    intro e
    have := congrArg List.length e
    have := h.counts.1
    simp [Prof.gotOf, Prof.psOf] at *
    omega
  have hr := read_text (nine_of_ok h) hp k
  rw [P.textL_of] at hl hk ⊢
  unfold textOf at *
  rw [if_pos hk] at hr
  unfold told
  rw [if_neg (by rw [List.length_take]; omega), hr]
  rfl
theorem told_inv {P : Prof} {l : List UInt8} (h0 : (told l).code = 0) (hs : Same (told l).P P) : l = P.textL := by
  unfold told at h0 hs
  by_cases c : 3000 < l.length
  · rw [if_pos c] at h0; exact absurd h0 (by decide)
  · rw [if_neg c] at h0 hs
    rcases e : rtext l with n | ⟨g, m⟩
    · rw [e, toldOf_bad] at h0; exact absurd h0 (by simp)
    · rw [e] at h0 hs
      by_cases z : (profOf g).code = 0
      · rw [toldOf_ok _ z] at hs
        rw [P.textL_of, ← got_of_same hs]
        exact (read_inv e).1
      · rw [toldOf_wrong _ z] at h0
        have := (profOf g).code_bounds
        simp only at h0
        omega

end Go.Proofs.YteodefmpkljedaaDoor
