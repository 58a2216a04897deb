/-
  What the laws of chapter 3 use: a drawn profile, and what is safe on it.
-/
import Derived.Test.YteodefmpkljedaaDrawLaw
import Derived.Test.YteodefmpkljedaaWatch
import Derived.Test.YteodefmpkljedaaBytes2
import Derived.OpenShut
namespace Go.Proofs.Yteodefmpkljedaa
open Go.RowKit
set_option linter.unusedVariables false

/-- A drawn profile and place, with its wants. -/
theorem drawn_any {w : World} {a : Option Addr} {len : Nat} (cap : Nat) (h : RowOk w a len) (hlen : len ≤ 1048576) :
    ∃ (P : Prof) (x : Int) (n : Nat) (z : Nat → Int), P.Ok ∧ 0 ≤ x ∧ x ≤ P.fin ∧ n ≤ 39 ∧ Hid (∀ w', Below w.heap.size w w' → Calls Try.prog 14 #[.slice a len cap] w' fun e w2 => ∃ ap cp az cz a3 c3, e = .returned (.tuple #[.agg #[.slice ap P.np cp, .slice az P.nz cz, .int .i64 P.train, .int .i64 P.fin, .int .i64 P.delay], .int .i64 x, .slice a3 n c3]) ∧ P.Lies w2 (.agg #[.slice ap P.np cp, .slice az P.nz cz, .int .i64 P.train, .int .i64 P.fin, .int .i64 P.delay]) ∧ Row1 w2 a3 n z ∧ Below w'.heap.size w' w2) := by
  obtain ⟨hm, hr⟩ := h
  obtain ⟨C, rfl, hC, hT⟩ : ∃ C : Txt, C.len = len ∧ C.Ok ∧ TxtIn w a C := by
    rcases hr with h0 | ⟨b, off, zs, rfl, hb, hl, hc, hw⟩
    · exact ⟨⟨len, fun _ => 0⟩, rfl, ⟨hlen, fun j hj => by have : j < len := hj; omega⟩, Or.inl h0⟩
    · refine ⟨⟨len, fun j => zs.getD j 0⟩, rfl, ⟨hlen, fun j hj => ?_⟩, Or.inr ⟨b, off, rfl, hb, fun j hj => hc j (by have : j < len := hj; omega)⟩⟩
      have hj' : j < zs.length := by have : j < len := hj; omega
      have e : zs.getD j 0 = zs[j] := by simp [List.getD, hj']
      show 0 ≤ zs.getD j 0 ∧ zs.getD j 0 ≤ 255
      rw [e]
      have := Go.bounds_u8 (hw _ (List.getElem_mem hj'))
      omega
  refine ⟨C.P, C.x, C.nw, C.ws, Txt.P_ok hC, (Txt.x_bounds hC).1, (Txt.x_bounds hC).2, Txt.nw_le hC, fun w' hb => ?_⟩
  refine (profiles_any C hC a cap w' (hT.below hb)).mono ?_
  rintro e w2 ⟨v1, v2, v3, rfl, h1, h2, h3, h4⟩
  obtain ⟨ap, cp, rfl, p1, p2, _⟩ := owned_shape h1
  obtain ⟨az, cz, rfl, z1, z2, _⟩ := owned_shape h2
  obtain ⟨a3, c3, rfl, _, _, _⟩ := owned_shape h3
  exact ⟨ap, cp, az, cz, a3, c3, rfl, ⟨ap, cp, az, cz, rfl, by omega, by omega, owned_row2 h1, owned_row3 h2⟩, owned_row1 h3, h4⟩

theorem Prof.Ok.goodAns {P : Prof} (h : P.Ok) {x : Int} (h0 : 0 ≤ x) (h1 : x ≤ P.fin) : P.mostAns x = P.most x ∧ ∀ v, 0 ≤ v → v ≤ 10000 → P.safeAns x v = P.safe 0 x v := by
  have hf := h.fin
  have hc := Prof.code_ok h
  refine ⟨if_pos ⟨hc, h0, by omega⟩, fun v a b => ?_⟩
  unfold Prof.safeAns
  rw [decide_eq_true ⟨hc, h0, by omega, a, b⟩, Bool.true_and]
/-- What is safe at a place of the way: up to the most, and no more. -/
theorem Prof.Ok.most_facts {P : Prof} (h : P.Ok) {x : Int} (h0 : 0 ≤ x) (h1 : x ≤ P.fin) :
    0 ≤ P.mostAns x ∧ P.mostAns x ≤ 10000 ∧ (∀ v, 0 ≤ v → v ≤ P.mostAns x → P.safeAns x v = true) ∧ (P.mostAns x < 10000 → P.safeAns x (P.mostAns x + 1) = false) := by
  obtain ⟨e, g⟩ := h.goodAns h0 h1
  obtain ⟨p1, p2, p3, p4⟩ := P.most_is x
  have p5 := Prof.most_pos h1
  rw [e]
  exact ⟨p5, p2, fun v a b => by rw [g v a (by omega)]; exact p3 v a b, fun c => by rw [g _ (by omega) (by omega)]; exact p4 c⟩
theorem Prof.Ok.safe_delay {P : Prof} (h : P.Ok) {x v : Int} (h0 : 0 ≤ x) (h1 : x ≤ P.fin) (hv : 0 < v) (hv' : v ≤ 10000) (hs : P.safeAns x v = true) : x + v * (P.delay + 1) ≤ P.fin := by
  rw [(h.goodAns h0 h1).2 v (by omega) hv'] at hs
  exact Prof.safe_delay h.rates hv h.delay.1 hs
/-- FnCurve's step: few points. -/
theorem curve_few {f d : Int} (hf : 0 ≤ f) (h1 : 1 ≤ d) (h2 : d ≤ 20) : 1 ≤ 1 + f / d ∧ 1 + f / d ≤ 1 + f ∧ f / (1 + f / d) ≤ 20 ∧ 0 ≤ f / (1 + f / d) := by
  have a0 : 0 ≤ f / d := Int.ediv_nonneg hf (by omega)
  have a1 : f / d ≤ f := Int.ediv_le_self _ hf
  have a2 : f < d * (f / d + 1) := by
    have h := Int.lt_mul_ediv_self_add (x := f) (k := d) (by omega)
    rw [Int.mul_add, Int.mul_one]; exact h
  have a3 : f / (1 + f / d) < d := Int.ediv_lt_of_lt_mul (by omega) (by rw [Int.add_comm 1 (f / d)]; exact a2)
  exact ⟨by omega, by omega, by omega, Int.ediv_nonneg hf (by omega)⟩
theorem curve_step {f y : Int} (hf : 0 ≤ f) (hy : 0 ≤ y) : ∃ d, 1 + y.tmod 20 = d ∧ 1 ≤ d ∧ d ≤ 20 ∧ (d == 0) = false ∧ d ≠ 0 ∧ 1 + y % 20 = d ∧ ∃ s, f.tdiv d = s ∧ 0 ≤ s ∧ s ≤ f ∧ f / (1 + s) ≤ 20 := by
  have e : y.tmod 20 = y % 20 := Int.tmod_eq_emod_of_nonneg hy
  have h0 : 0 ≤ y % 20 := Int.emod_nonneg _ (by omega)
  have h1 : y % 20 < 20 := Int.emod_lt_of_pos _ (by omega)
  obtain ⟨c1, c2, c3, c4⟩ := curve_few (d := 1 + y % 20) hf (by omega) (by omega)
  refine ⟨1 + y % 20, by rw [e], by omega, by omega, by simp; omega, by omega, rfl, f / (1 + y % 20), Int.tdiv_eq_ediv_of_nonneg hf, by omega, by omega, c3⟩
end Go.Proofs.Yteodefmpkljedaa
