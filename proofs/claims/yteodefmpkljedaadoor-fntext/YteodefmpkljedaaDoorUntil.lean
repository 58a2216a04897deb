/-
  A region that draws its order, whose last operation waits for all others: what the loads lean on need not hold behind it.
-/
import Derived.OrdersHeld
namespace Go.Proofs.YteodefmpkljedaaDoor
open Go

/-- As 'whatever order is picked', a condition S being kept by every operation but number m. -/
def wpAnyU (P : Program) (md : Region.Mode) (ops : Array Oper) (Q : Exit → Act → World → Prop) (S : World → Prop) (m : Nat) : Nat → Array Bool → Act → World → Prop
  | 0, l, a, w => Region.ready md ops l = [] ∧ Q .normal a w
  | f + 1, l, a, w => (Region.ready md ops l = [] → Q .normal a w) ∧ ∀ i ∈ Region.ready md ops l, wpOp P ops Q i (fun a' w' => (i = m ∨ S w') ∧ wpAnyU P md ops Q S m f (l.setIfInBounds i true) a' w') a w
section
variable {P : Program} {md : Region.Mode} {ops : Array Oper} {Q : Exit → Act → World → Prop} {S : World → Prop} {m : Nat}
theorem wpAnyU.any : ∀ (f : Nat) (l : Array Bool) (a : Act) (w : World), wpAnyU P md ops Q S m f l a w → wpAny P md ops Q f l a w
  | 0, _, _, _, h => h
  | f + 1, _, _, _, h => ⟨h.1, fun i hi => wpOp_mono (fun a' w' k => wpAnyU.any f _ a' w' k.2) (h.2 i hi)⟩
/-- Number m waits for number i. -/
def waits (md : Region.Mode) (ops : Array Oper) (m i : Nat) : Bool := ((ops[m]?).map (·.after.any fun e => Region.binds md e && e.on == i)).getD false
theorem waits_not {l : Array Bool} {i : Nat} (hw : waits md ops m i = true) (hr : i ∈ Region.ready md ops l) : m ∉ Region.ready md ops l := by
  intro hm
  obtain ⟨_, o, ho, hall⟩ := mem_ready.1 hm
  have hi := (mem_ready.1 hr).1
  unfold waits at hw
  rw [ho] at hw
  simp only [Option.map_some, Option.getD_some] at hw
  obtain ⟨e, he, hb⟩ := Array.any_eq_true'.1 hw
  simp only [Bool.and_eq_true, beq_iff_eq] at hb
  have := hall e he hb.1
  rw [hb.2] at this
  rcases Nat.lt_or_ge i l.size with c | c
  · simp [c] at hi this; rw [hi] at this; cases this
  · simp [Array.getElem?_eq_none c] at this
theorem wpAnyU_first {i : Nat} {oi : Oper} {v : Value} (hi : ops[i]? = some oi) (hsel : ∀ (j : Nat) (o : Oper) cs b, ops[j]? = some o → o.op ≠ .select cs b)
    (hQ : ∀ c a w, Q (.panic c) (a.put oi.dst v) w → Q (.panic c) a w) (hw : waits md ops m i = true) (f : Nat) :
    ∀ (l : Array Bool) (a : Act) (w : World), (∀ j oj, ops[j]? = some oj → j ≠ i → l.getD j true = false → (∀ e ∈ oj.after, Region.binds md e = true → e.on ≠ i) → oi.apart ops oj = true) →
      i ∈ Region.ready md ops l → YieldsIf P ops S oi v a → S w → wpAnyU P md ops Q S m f (l.setIfInBounds i true) (a.put oi.dst v) w → wpAnyU P md ops Q S m (f + 1) l a w := by
  induction f with
  | zero =>
    intro l a w _ hr hy hS H
    refine ⟨fun h => absurd hr (by rw [h]; simp), fun j hj => ?_⟩
    rcases Nat.decEq j i with c | c
    · exact absurd (ready_mono hj c) (by rw [H.1]; simp)
    · subst c; exact hy.wpOp hi hS ⟨Or.inr hS, H⟩
  | succ f ih =>
    intro l a w hfree hr hy hS H
    refine ⟨fun h => absurd hr (by rw [h]; simp), fun j hj => ?_⟩
    rcases Nat.decEq j i with c | c
    · have hjm : j ≠ m := fun e => waits_not hw hr (e ▸ hj)
      obtain ⟨hun, oj, hoj, hall⟩ := mem_ready.1 hj
      have hno : ∀ e ∈ oj.after, Region.binds md e = true → e.on ≠ i := fun e he hb he2 => by
        have g1 := hall e he hb
        have g0 := (mem_ready.1 hr).1
        rw [he2] at g1
        rcases Nat.lt_or_ge i l.size with q | q
        · simp [q] at g0 g1; rw [g0] at g1; cases g1
        · simp [Array.getElem?_eq_none q] at g1
      refine wpOp_mono (fun a' w' k => ?_) (wpOp_putIf hoj (hfree j oj hoj c hun hno) (fun cs b => hsel i oi cs b hi) (fun cs b => hsel j oj cs b hoj) hQ hy (H.2 j (ready_mono hj c)))
      have hS' : S w' := k.2.1.resolve_left hjm
      refine ⟨Or.inr hS', ih (l.setIfInBounds j true) a' w' (fun p op hp hpi hpu hpn => hfree p op hp hpi ?_ hpn) (ready_mono hr (Ne.symm c)) k.1 hS' ?_⟩
      · by_cases q : j = p
        · subst q; exact hun
        · rw [getD_set_ne true q] at hpu; exact hpu
      · rw [Array.setIfInBounds_comm _ _ c]; exact k.2.2
    · subst c; exact hy.wpOp hi hS ⟨Or.inr hS, H⟩
theorem wpAnyU_take {i : Nat} {oi : Oper} {v : Value} {f : Nat} {l : Array Bool} {a : Act} {w : World} (hi : ops[i]? = some oi) (hs : Region.noSelect ops = true) (hf : Region.free md ops l i = true) (hr : (Region.ready md ops l).contains i = true) (hw : waits md ops m i = true)
    (hQ : ∀ c a w, Q (.panic c) (a.put oi.dst v) w → Q (.panic c) a w) (hy : YieldsIf P ops S oi v a) (hS : S w) (h : wpAnyU P md ops Q S m f (l.setIfInBounds i true) (a.put oi.dst v) w) : wpAnyU P md ops Q S m (f + 1) l a w :=
  wpAnyU_first hi (Region.noSelect_spec hs) hQ hw f l a w (Region.free_spec hi hf) (by simpa using hr) hy hS h
/-- The one operation that may come up. -/
theorem wpAnyU_one {i : Nat} {oi : Oper} {f : Nat} {l : Array Bool} {a : Act} {w : World} (hi : ops[i]? = some oi) (hr : Region.ready md ops l = [i])
    (h : ∀ K : Act → World → Prop, (∀ a' w', (i = m ∨ S w') → wpAnyU P md ops Q S m f (l.setIfInBounds i true) a' w' → K a' w') → if Region.wanted oi (yielded ops a.tmps) = true then Oper.wp P oi a w K Q else K (a.put oi.dst undef) w) : wpAnyU P md ops Q S m (f + 1) l a w := by
  refine ⟨fun e => absurd (hr.symm.trans e) (by simp), fun j hj => ?_⟩
  rw [hr] at hj
  have e : j = i := by simpa using hj
  subst e
  have := h (fun a' w' => (j = m ∨ S w') ∧ wpAnyU P md ops Q S m f (l.setIfInBounds j true) a' w') (fun a' w' q1 q2 => ⟨q1, q2⟩)
  unfold wpOp
  rw [hi]
  dsimp only
  by_cases c : Region.wanted oi (yielded ops a.tmps) = true
  · rw [if_pos c] at this ⊢; exact Or.inl this
  · rw [if_neg c] at this ⊢; exact this
theorem wpAnyU_done {l : Array Bool} {a : Act} {w : World} (hr : Region.ready md ops l = []) (h : Q .normal a w) (f : Nat) : wpAnyU P md ops Q S m f l a w := by
  cases f with
  | zero => exact ⟨hr, h⟩
  | succ f => exact ⟨fun _ => h, by rw [hr]; simp⟩
end

end Go.Proofs.YteodefmpkljedaaDoor
