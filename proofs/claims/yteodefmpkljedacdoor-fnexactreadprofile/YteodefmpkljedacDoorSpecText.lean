/-
  The model's text of a profile.
-/
import Derived.Test.YteodefmpkljedacDoorSpecOk
import Derived.Test.YteodefmpkljedacDoorOwnRow
import Derived.OrdersHeld
import Derived.Shelf.Abstract
namespace Go.Proofs.YteodefmpkljedacDoor
open Go.RowKit Go.Sort Go.Shelf
set_option linter.unusedVariables false
set_option linter.unusedSimpArgs false

/-- The digits of a number. -/
def decL (n : Nat) : List UInt8 := if n < 10 then [UInt8.ofNat (48 + n)] else decL (n / 10) ++ [UInt8.ofNat (48 + n % 10)]
def decB (n : Nat) : ByteArray := ⟨(decL n).toArray⟩

/-- Nothing for no number: what the loop has yet to lay. -/
def decL0 (n : Nat) : List UInt8 := if n = 0 then [] else decL n
theorem decL0_pos {n : Nat} (h : ¬ n = 0) : decL0 n = decL n := if_neg h
theorem decL0_step {n : Nat} (h : 0 < n) : decL0 n = decL0 (n / 10) ++ [UInt8.ofNat (48 + n % 10)] := by
  unfold decL0
  rw [if_neg (by omega)]
  rw [decL]
  by_cases c : n < 10
  · rw [if_pos c, if_pos (by omega), Nat.mod_eq_of_lt c]; rfl
  · rw [if_neg c, if_neg (by omega)]

theorem decL_len : ∀ (k n : Nat), 1 ≤ k → n < 10 ^ k → (decL n).length ≤ k
  | 0, _, h, _ => by omega
  | k + 1, n, _, h => by
    rw [decL]
    by_cases c : n < 10
    · rw [if_pos c]; simp
    · rw [if_neg c, List.length_append]
      have hk : 1 ≤ k := by
        rcases Nat.eq_zero_or_pos k with e | e
        · subst e; simp at h; omega
        · exact e
      have := decL_len k (n / 10) hk (by rw [Nat.pow_succ] at h; omega)
      simp
      exact this
theorem decL_pos (n : Nat) : 1 ≤ (decL n).length := by
  rw [decL]
  split <;> simp
/-- Two texts, one behind the other. -/
theorem bytes_app (a b : List UInt8) : (⟨a.toArray⟩ : ByteArray) ++ ⟨b.toArray⟩ = ⟨(a ++ b).toArray⟩ := by
  apply ByteArray.ext
  simp

def Prof.lineP (P : Prof) (j : Nat) : List UInt8 := [116, 114, 97, 99, 107, 32] ++ decL (P.L j).toNat ++ [32, 98, 114, 97, 107, 101, 32] ++ decL (P.B j).toNat ++ [10]
def Prof.lineZ (P : Prof) (j : Nat) : List UInt8 := [108, 105, 109, 105, 116, 32] ++ decL (P.F j).toNat ++ [32] ++ decL (P.T j).toNat ++ [32] ++ decL (P.S j).toNat ++ [10]
def Prof.lineT (P : Prof) : List UInt8 := [116, 114, 97, 105, 110, 32] ++ decL P.train.toNat ++ [32, 101, 110, 100, 32] ++ decL P.fin.toNat ++ [32, 100, 101, 108, 97, 121, 32] ++ decL P.delay.toNat ++ [10]
/-- The first lines, one behind the other. -/
def linesTo (f : Nat → List UInt8) : Nat → List UInt8
  | 0 => []
  | k + 1 => linesTo f k ++ f k
/-- The text of a right profile, whatever its length. -/
def Prof.textL (P : Prof) : List UInt8 := linesTo P.lineP P.np ++ linesTo P.lineZ P.nz ++ P.lineT
/-- What WriteProfile answers. -/
def Prof.textAns (P : Prof) : List UInt8 := if P.code = 0 ∧ P.textL.length ≤ 3000 then P.textL else []

theorem dec_len {x : Int} (h : x ≤ 1000000000000) : (decL x.toNat).length ≤ 13 := decL_len 13 _ (by omega) (by omega)
theorem linesTo_len {f : Nat → List UInt8} {m : Nat} : ∀ k, (∀ j, j < k → (f j).length ≤ m) → (linesTo f k).length ≤ m * k
  | 0, _ => by simp [linesTo]
  | k + 1, h => by
    have h1 := linesTo_len k (fun j hj => h j (by omega))
    have h2 := h k (by omega)
    rw [linesTo, List.length_append, Nat.mul_succ]
    omega
theorem wpAnyH_sole {P : Program} {md : Region.Mode} {ops : Array Oper} {Q : Exit → Act → World → Prop} {S : World → Prop} {i : Nat} {oi : Oper} {f : Nat} {l : Array Bool} {a : Act} {w : World} (hi : ops[i]? = some oi) (hr : Region.ready md ops l = [i])
    (h : ∀ K : Act → World → Prop, (∀ a' w', S w' → wpAnyH P md ops Q S f (l.setIfInBounds i true) a' w' → K a' w') → if Region.wanted oi (yielded ops a.tmps) = true then Oper.wp P oi a w K Q else K (a.put oi.dst undef) w) : wpAnyH P md ops Q S (f + 1) l a w := by
  refine wpAnyH_all hr (by simp) (fun j hj => ?_)
  have e : j = i := by simpa using hj
  subst e
  have := h (fun a' w' => S w' ∧ wpAnyH P md ops Q S f (l.setIfInBounds j true) a' w') (fun a' w' q1 q2 => ⟨q1, q2⟩)
  unfold wpOp
  rw [hi]
  dsimp only
  by_cases c : Region.wanted oi (yielded ops a.tmps) = true
  · rw [if_pos c] at this ⊢; exact Or.inl this
  · rw [if_neg c] at this ⊢; exact this

theorem step_one {P : Program} {ops : Array Oper} {o : Oper} {a : Act} {w : World} {K : Act → World → Prop} {Q : Exit → Act → World → Prop} {E : Prop}
    (hg : o.guard = none) (f : Nat) (s : Operand) (ts : Array TypeId) (hop : o.op = Op.call { callee := Callee.value (Operand.func f), args := #[s], argTypes := ts })
    (u1 : Value) (hs : a.eval s = u1) (eg : ∀ args w, (callFunc f args).run P w = .ok (.enter f args) w) {R : Ending → World → Prop} (hc : Calls P f #[u1] w R)
    (hK : ∀ e w', R e w' → ∃ v, e = .returned v ∧ K (a.put o.dst v) w') :
    if Region.wanted o (yielded ops a.tmps) = true then Oper.wp P o a w K Q else E := by
  have hw : Region.wanted o (yielded ops a.tmps) = true := by simp [Region.wanted, hg]
  rw [if_pos hw]
  have hrun : (execOp a.eval o).run P w = .ok (.enter f #[u1]) w := by
    have hf : a.eval (Operand.func f) = .func (.func f) #[] #[] := rfl
    simp [execOp, hop, resolve, invoke, hs, hf, eg, Result.andThen, Deferred.ofValue]
  unfold Oper.wp
  rw [hrun]
  refine Calls.mono hc fun e w' h => ?_
  obtain ⟨v, rfl, hk⟩ := hK e w' h
  exact hk

end Go.Proofs.YteodefmpkljedacDoor
