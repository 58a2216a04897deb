/-
  Runs on one piece, as plain mathematics; what the fastest run's row of speeds says.
-/
import Derived.Test.YteodefmpkljedaaSpecFast
namespace Go.Proofs.Yteodefmpkljedaa
open Go.RowKit
set_option linter.unusedVariables false

theorem ofZ_nth : ∀ (l pre : List Int), ofZ (nth (pre ++ l)) pre.length l.length = l
  | [], _ => rfl
  | a :: l, pre => by
    show ofZ (nth (pre ++ a :: l)) pre.length (l.length + 1) = a :: l
    unfold ofZ
    have e : pre ++ a :: l = (pre ++ [a]) ++ l := by simp
    have h := ofZ_nth l (pre ++ [a])
    rw [nth_app, e]
    rw [List.length_append, List.length_singleton] at h
    rw [h]
theorem rst_sum (z : Nat → Int) : ∀ k, (rst z k).1 = sumTo z k
  | 0 => rfl
  | k + 1 => by
    show (rst z k).1 + z k = sumTo z k + z k
    rw [rst_sum z k]
theorem Few.hasRun.isRun {Fw : Few} {P : Prof} {acc x short : Int} (h : Fw.hasRun P acc x short) : P.isRun acc x short (nth (Fw.runL P acc x short)) (Fw.runT P acc x short) = true := by
  rw [Prof.isRun_iff]
  have e := ofZ_nth (Fw.runL P acc x short) []
  rw [List.nil_append, List.length_nil, Fw.runL_length P] at e
  rw [e]
  exact (Few.runL_fast h).run
theorem Few.hasRun.n {Fw : Few} {P : Prof} {acc x short : Int} (h : Fw.hasRun P acc x short) : Fw.runN P acc x short = Fw.runT P acc x short := if_pos (Few.runO_iff.2 h)
theorem Few.hasRun.ans {Fw : Few} {P : Prof} {acc x short : Int} (h : Fw.hasRun P acc x short) : P.runAns acc x short (Fw.runN P acc x short) (nth (Fw.runL P acc x short)) = true := by
  unfold Prof.runAns
  rw [h.1, h.n, h.isRun, decide_eq_true (by have := h.2; unfold Few.runT; omega)]
  rfl
theorem Few.hasRun.sum {Fw : Few} {P : Prof} {acc x : Int} (h : Fw.hasRun P acc x 0) : sumTo (nth (Fw.runL P acc x 0)) (Fw.runN P acc x 0) = P.fin - x := by
  have h1 := h.isRun
  unfold Prof.isRun at h1
  rw [Bool.and_eq_true] at h1
  have h2 := h1.2
  unfold Prof.home at h2
  simp only [decide_eq_true_eq] at h2
  rw [h.n, ← rst_sum]
  omega

/-- One piece without limits. -/
def evenP (n b : Int) : Prof := { np := 1, L := fun _ => n, B := fun _ => b, nz := 0, F := fun _ => 0, T := fun _ => 0, S := fun _ => 0, train := 0, fin := n, delay := 0 }
theorem evenP_ok {n b : Int} (n0 : 1 ≤ n) (n1 : n ≤ 400) (b0 : 10 ≤ b) (b1 : b ≤ 29) : (evenP n b).Ok := by
  refine ⟨⟨Nat.le_refl _, ?_, ?_⟩, fun j hj => ⟨⟨n0, ?_⟩, b0, ?_⟩, fun j hj => absurd hj (Nat.not_lt_zero j), ⟨Int.le_refl _, ?_⟩, ⟨?_, ?_⟩, ⟨Int.le_refl _, ?_⟩⟩
  · show 1 ≤ 60; omega
  · show 0 ≤ 60; omega
  · show n ≤ 1666666; omega
  · show b ≤ 1000; omega
  · show (0 : Int) ≤ 100000000; omega
  · show 0 ≤ n; omega
  · show n ≤ sumTo (fun _ => n) 1
    simp [sumTo]
  · show (0 : Int) ≤ 20; omega
theorem even_may {n b d w : Int} (hw : w = 0 ∨ w = 1) (h : d + w ≤ n) : (evenP n b).may d w = true := by
  unfold Prof.may
  rcases hw with rfl | rfl
  · rw [if_pos rfl]
    exact decide_eq_true (by show d ≤ n; omega)
  · rw [if_neg (by omega)]
    refine decide_eq_true ⟨h, ?_⟩
    show (1 : Int) ≤ 10000
    omega
theorem even_goes {n b acc d v w : Int} (hok : (evenP n b).Ok) (a0 : 1 ≤ acc) (a1 : acc ≤ 20) (hv : v = 0 ∨ v = 1) (hw : w = 0 ∨ w = 1) (h : d + w ≤ n) : (evenP n b).goes acc 0 d v w = true := by
  have hr := hok.rate (0 + d)
  refine Prof.goes_iff.2 ⟨⟨?_, ?_⟩, by rw [Int.zero_add]; exact even_may hw h⟩
  · unfold less; rw [if_pos (by omega)]; omega
  · unfold high; rw [if_neg (by omega)]; omega
theorem even_slow {n b acc : Int} (hok : (evenP n b).Ok) (a0 : 1 ≤ acc) (a1 : acc ≤ 20) : ∀ (k : Nat) (d v : Int), (v = 0 ∨ v = 1) → d + k = n → (evenP n b).onward acc 0 0 (List.replicate k 1 ++ [0]) d v
  | 0, d, v, hv, hd => by
    refine ⟨even_goes hok a0 a1 hv (Or.inl rfl) (by omega), ?_⟩
    show (evenP n b).home 0 0 (d + 0) 0 = true
    exact decide_eq_true ⟨rfl, by show 0 + (d + 0) ≤ n; omega, by show n - 0 ≤ 0 + (d + 0); omega⟩
  | k + 1, d, v, hv, hd => ⟨even_goes hok a0 a1 hv (Or.inr rfl) (by omega), even_slow hok a0 a1 k (d + 1) 1 (Or.inr rfl) (by omega)⟩
theorem even_has {Fw : Few} {n b acc : Int} (n0 : 1 ≤ n) (n1 : n ≤ 400) (b0 : 10 ≤ b) (b1 : b ≤ 29) (a0 : 1 ≤ acc) (a1 : acc ≤ 20) : Fw.hasRun (evenP n b) acc 0 0 := by
  have hok := evenP_ok n0 n1 b0 b1
  obtain ⟨k, hk⟩ : ∃ k : Nat, n = k := ⟨n.toNat, by omega⟩
  have ho := even_slow (acc := acc) hok a0 a1 k 0 0 (Or.inl rfl) (by omega)
  have hc := Prof.can_of hok.rates (by omega) _ 0 0 (by omega) (show 0 + 0 ≤ (evenP n b).fin by show (0 : Int) + 0 ≤ n; omega) (by omega) (by omega) ho
  have hf := (Fw.is (evenP n b) acc 0 0).can hc
  simp at hf
  exact ⟨Prof.runGood_iff.2 ⟨hok, ⟨a0, a1⟩, ⟨by omega, by show (0 : Int) ≤ n; omega⟩, by show n - 0 ≤ 2000; omega, by omega, by omega⟩, hf.1, by omega⟩
theorem even_twice {Fw : Few} {n b acc : Int} (n0 : 1 ≤ n) (n1 : n ≤ 400) (b0 : 10 ≤ b) (b1 : b ≤ 29) (a0 : 1 ≤ acc) (a1 : acc ≤ 9) : Fw.runN (evenP n b) (2 * acc) 0 0 ≤ Fw.runN (evenP n b) acc 0 0 := by
  have hok := evenP_ok n0 n1 b0 b1
  have h1 := even_has (Fw := Fw) n0 n1 b0 b1 a0 (by omega : acc ≤ 20)
  have h2 := even_has (Fw := Fw) n0 n1 b0 b1 (show 1 ≤ 2 * acc by omega) (by omega)
  have ho := Prof.onward_acc (acc' := 2 * acc) (by omega) _ _ _ (Few.runL_fast h1).run
  have := (Few.runL_fast h2).few _ ho
  rw [Fw.runL_length (evenP n b), Fw.runL_length (evenP n b)] at this
  rw [h1.n, h2.n]
  exact this

end Go.Proofs.Yteodefmpkljedaa
