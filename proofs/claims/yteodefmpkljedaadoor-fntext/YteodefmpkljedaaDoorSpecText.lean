/-
  The model's text of a profile.
-/
import Derived.Test.YteodefmpkljedaaDoorSpecOk
import Derived.Test.YteodefmpkljedaaDoorGrow
import Derived.OrdersHeld
import Derived.Shelf.Abstract
namespace Go.Proofs.YteodefmpkljedaaDoor
open Go.RowKit Go.Sort Go.Shelf
set_option linter.unusedVariables false
set_option linter.unusedSimpArgs false

/-- The digits of a number. -/
def decL (n : Nat) : List UInt8 := if n < 10 then [UInt8.ofNat (48 + n)] else decL (n / 10) ++ [UInt8.ofNat (48 + n % 10)]
def decB (n : Nat) : ByteArray := ⟨(decL n).toArray⟩

/-- Nothing for no number: what the loop has yet to lay. -/
def decL0 (n : Nat) : List UInt8 := if n = 0 then [] else decL n
theorem decL0_pos {n : Nat} (h : ¬ n = 0) : decL0 n = decL n := if_neg h
theorem decL0_step {n : Nat} (h : 0 < n) : decL0 n = decL0 (n / 10) ++ [UInt8.ofNat (48 + n % 10)] := by
  unfold decL0
  rw [if_neg (by omega)]
  rw [decL]
  by_cases c : n < 10
  · rw [if_pos c, if_pos (by omega), Nat.mod_eq_of_lt c]; rfl
  · rw [if_neg c, if_neg (by omega)]

theorem decL_len : ∀ (k n : Nat), 1 ≤ k → n < 10 ^ k → (decL n).length ≤ k
  | 0, _, h, _ => by omega
  | k + 1, n, _, h => by
    rw [decL]
    by_cases c : n < 10
    · rw [if_pos c]; simp
    · rw [if_neg c, List.length_append]
      have hk : 1 ≤ k := by
        rcases Nat.eq_zero_or_pos k with e | e
        · subst e; simp at h; omega
        · exact e
      have := decL_len k (n / 10) hk (by rw [Nat.pow_succ] at h; omega)
      simp
      exact this
theorem decL_pos (n : Nat) : 1 ≤ (decL n).length := by
  rw [decL]
  split <;> simp
/-- Two texts, one behind the other. -/
theorem bytes_app (a b : List UInt8) : (⟨a.toArray⟩ : ByteArray) ++ ⟨b.toArray⟩ = ⟨(a ++ b).toArray⟩ := by
  apply ByteArray.ext
  simp

set_option maxRecDepth 20000 in
set_option maxHeartbeats 4000000 in
theorem decimal_any (n : Nat) (w : World) (hn : n ≤ 1000000000000) :
    Calls Tryd.prog 18 #[.int .i64 n] w fun e w' => e = .returned (.string (decB n)) ∧ Below w.heap.size w w' := by
  by_cases hz : n = 0
  · subst hz
    go_enter Tryd.func18, Tryd.ntmps18
    go_wp2
    go_ret
    exact ⟨by show Ending.returned (.string ⟨#[48]⟩) = _; unfold decB decL; rfl, Below.refl _ _⟩
  · have hz' : ((n : Int) == 0) = false := by simp; omega
    go_enter Tryd.func18, Tryd.ntmps18
    go_wp2_with fail
    go_loopw [0, 3] (fun sn so wr => ∃ (m : Nat) (o : List UInt8), sn = .int .i64 m ∧ so = .string ⟨o.toArray⟩ ∧ m ≤ n ∧ Hid (decL0 m ++ o = decL n) ∧ Hid (Below w.heap.size w wr)) (fun sn _ _ => (intOf sn).toNat)
    case atStart => exact ⟨n, [], rfl, rfl, Nat.le_refl _, by show _ = _; rw [decL0_pos hz]; simp, Below.refl _ _⟩
    case round =>
      obtain ⟨m, o, rfl, rfl, hm, HO, HB⟩ := hrel
      by_cases hm0 : 0 < m
      · have hmI : (0 : Int) < (m : Int) := by omega
        obtain ⟨d, hd⟩ : ∃ d : UInt8, UInt8.ofNat (48 + m % 10) = d := ⟨_, rfl⟩
        have hdn : (48 : Int) + (m : Int) % 10 = (d.toNat : Int) := by rw [← hd, UInt8.toNat_ofNat']; omega
        have hcv : (convert 22 9 (.slice (some ⟨wr.heap.size, 0, none⟩) 1 1)).run Tryd.prog (wr.alloc (.cells #[.int .u8 (48 + (m : Int) % 10)] 5)) = .ok (.string ⟨#[d]⟩) (wr.alloc (.cells #[.int .u8 (48 + (m : Int) % 10)] 5)) := by
          refine run_convert_bytes_back _ _ _ 5 ⟨wr.heap.size, 0, none⟩ 1 [d] Tryd.underlying22 Tryd.underlying5 Tryd.underlying9 (fun j hj => ?_)
          have : j = 0 := by simp at hj; omega
          subst this
          rw [hdn]
          simp [Addr.add]
        have HST : Hid (decL0 (m / 10) ++ ([d] ++ o) = decL n) := by show _ = _; rw [← List.append_assoc, ← hd, ← decL0_step hm0]; exact HO.out
        have hlo : o.length ≤ 13 := by
          have h1 := congrArg List.length HO.out
          have h2 := decL_len 13 n (by omega) (by omega)
          rw [List.length_append] at h1
          omega
        have hov : ¬ (9223372036854775807 < 1 + o.length) := by omega
        have hap : (⟨#[d]⟩ : ByteArray) ++ ⟨o.toArray⟩ = ⟨([d] ++ o).toArray⟩ := bytes_app [d] o
        clear hdn hd hlo
        go_wp2
        go_roundw
        case rel => exact ⟨m / 10, [d] ++ o, by go_num, rfl, by omega, HST.out, HB.out.alloc (by have := HB.out.size; omega) _⟩
        case measure => simp [intOf]; omega
      · have hm1 : decide ((0 : Int) < (m : Int)) = false := by simp; omega
        have ho : o = decL n := by have := HO.out; rw [show m = 0 by omega] at this; exact this
        subst ho
        go_wp2
        go_ret
        exact ⟨rfl, HB.out⟩

def Prof.lineP (P : Prof) (j : Nat) : List UInt8 := [116, 114, 97, 99, 107, 32] ++ decL (P.L j).toNat ++ [32, 98, 114, 97, 107, 101, 32] ++ decL (P.B j).toNat ++ [10]
def Prof.lineZ (P : Prof) (j : Nat) : List UInt8 := [108, 105, 109, 105, 116, 32] ++ decL (P.F j).toNat ++ [32] ++ decL (P.T j).toNat ++ [32] ++ decL (P.S j).toNat ++ [10]
def Prof.lineT (P : Prof) : List UInt8 := [116, 114, 97, 105, 110, 32] ++ decL P.train.toNat ++ [32, 101, 110, 100, 32] ++ decL P.fin.toNat ++ [32, 100, 101, 108, 97, 121, 32] ++ decL P.delay.toNat ++ [10]
/-- The first lines, one behind the other. -/
def linesTo (f : Nat → List UInt8) : Nat → List UInt8
  | 0 => []
  | k + 1 => linesTo f k ++ f k
/-- The text of a right profile, whatever its length. -/
def Prof.textL (P : Prof) : List UInt8 := linesTo P.lineP P.np ++ linesTo P.lineZ P.nz ++ P.lineT
/-- What WriteProfile answers. -/
def Prof.textAns (P : Prof) : List UInt8 := if P.code = 0 ∧ P.textL.length ≤ 3000 then P.textL else []

theorem dec_len {x : Int} (h : x ≤ 1000000000000) : (decL x.toNat).length ≤ 13 := decL_len 13 _ (by omega) (by omega)
theorem linesTo_len {f : Nat → List UInt8} {m : Nat} : ∀ k, (∀ j, j < k → (f j).length ≤ m) → (linesTo f k).length ≤ m * k
  | 0, _ => by simp [linesTo]
  | k + 1, h => by
    have h1 := linesTo_len k (fun j hj => h j (by omega))
    have h2 := h k (by omega)
    rw [linesTo, List.length_append, Nat.mul_succ]
    omega
theorem wpAnyH_sole {P : Program} {md : Region.Mode} {ops : Array Oper} {Q : Exit → Act → World → Prop} {S : World → Prop} {i : Nat} {oi : Oper} {f : Nat} {l : Array Bool} {a : Act} {w : World} (hi : ops[i]? = some oi) (hr : Region.ready md ops l = [i])
    (h : ∀ K : Act → World → Prop, (∀ a' w', S w' → wpAnyH P md ops Q S f (l.setIfInBounds i true) a' w' → K a' w') → if Region.wanted oi (yielded ops a.tmps) = true then Oper.wp P oi a w K Q else K (a.put oi.dst undef) w) : wpAnyH P md ops Q S (f + 1) l a w := by
  refine wpAnyH_all hr (by simp) (fun j hj => ?_)
  have e : j = i := by simpa using hj
  subst e
  have := h (fun a' w' => S w' ∧ wpAnyH P md ops Q S f (l.setIfInBounds j true) a' w') (fun a' w' q1 q2 => ⟨q1, q2⟩)
  unfold wpOp
  rw [hi]
  dsimp only
  by_cases c : Region.wanted oi (yielded ops a.tmps) = true
  · rw [if_pos c] at this ⊢; exact Or.inl this
  · rw [if_neg c] at this ⊢; exact this

theorem dec_any (x : Int) (h0 : 0 ≤ x) (h1 : x ≤ 1000000000000) (w : World) : Calls Tryd.prog 18 #[.int .i64 x] w fun e w' => e = .returned (.string ⟨(decL x.toNat).toArray⟩) ∧ Below w.heap.size w w' := by
  have h := decimal_any x.toNat w (by omega)
  rw [Int.toNat_of_nonneg h0] at h
  exact h
/-- A call of one argument, taken by hand. -/

theorem step_one {P : Program} {ops : Array Oper} {o : Oper} {a : Act} {w : World} {K : Act → World → Prop} {Q : Exit → Act → World → Prop} {E : Prop}
    (hg : o.guard = none) (f : Nat) (s : Operand) (ts : Array TypeId) (hop : o.op = Op.call { callee := Callee.value (Operand.func f), args := #[s], argTypes := ts })
    (u1 : Value) (hs : a.eval s = u1) (eg : ∀ args w, (callFunc f args).run P w = .ok (.enter f args) w) {R : Ending → World → Prop} (hc : Calls P f #[u1] w R)
    (hK : ∀ e w', R e w' → ∃ v, e = .returned v ∧ K (a.put o.dst v) w') :
    if Region.wanted o (yielded ops a.tmps) = true then Oper.wp P o a w K Q else E := by
  have hw : Region.wanted o (yielded ops a.tmps) = true := by simp [Region.wanted, hg]
  rw [if_pos hw]
  have hrun : (execOp a.eval o).run P w = .ok (.enter f #[u1]) w := by
    have hf : a.eval (Operand.func f) = .func (.func f) #[] #[] := rfl
    simp [execOp, hop, resolve, invoke, hs, hf, eg, Result.andThen, Deferred.ofValue]
  unfold Oper.wp
  rw [hrun]
  refine Calls.mono hc fun e w' h => ?_
  obtain ⟨v, rfl, hk⟩ := hK e w' h
  exact hk

set_option maxRecDepth 20000 in
set_option maxHeartbeats 8000000 in
theorem specWrite_any (P : Prof) (v : Value) (w : World) (hl : P.Lies w v) :
    Calls Tryd.prog 6 #[v] w fun e w' => e = .returned (.string ⟨P.textAns.toArray⟩) ∧ Below w.heap.size w w' := by
  have HV : Hid (P.Lies w v) := hl
  obtain ⟨ap, cp, az, cz, rfl, hnp, hnz, hr2, hr3⟩ := hl
  have HR2 : Hid (Row2 w ap P.np P.L P.B) := hr2
  have HR3 : Hid (Row3 w az P.nz P.F P.T P.S) := hr3
  clear hr2 hr3
  go_enter Tryd.func6, Tryd.ntmps6
  go_wp2_with fail
  obtain ⟨pb, hpb⟩ : ∃ pb, w.heap.size = pb := ⟨_, rfl⟩
  have HPB : Hid (w.heap.size = pb) := hpb
  rw [hpb]
  generalize hW : w.alloc _ = W
  have bW : Below w.heap.size w W := by rw [← hW]; exact (Below.refl _ _).alloc (Nat.le_refl _) _
  have HBX : Hid (P.BoxAt W pb ap az cp cz) := by show Prof.BoxAt _ _ _ _ _ _ _; subst hW hpb; exact ⟨by go_simp, by go_simp, by go_simp, by go_simp, by go_simp⟩
  clear hW hpb
  refine (specOk_any P _ W (HV.out.below bW)).mono ?_
  rintro e w1 ⟨rfl, hb1⟩
  have HB1 : Hid (Below w.heap.size w w1) := bW.trans (hb1.mono bW.size)
  obtain ⟨x0, x1, x2, x3, x4⟩ := HBX.out.below hb1
  have HBX1 : Hid (P.BoxAt w1 pb ap az cp cz) := HBX.out.below hb1
  clear bW hb1 HBX
  by_cases h : P.code = 0
  · rw [h]
    have hok : P.Ok := Prof.code_zero.1 h
    have HOK : Hid P.Ok := hok
    clear h hok
    go_wp2_with fail
    have eD : Hid (∀ args w, (callFunc 18 args).run Tryd.prog w = .ok (.enter 18 args) w) := enters_of Tryd.func18 (by kernel_rfl) rfl
    have hS1 : Hid (Below w1.heap.size w1 w1) := Below.refl _ _
    clear x0 x1 x2 x3 x4
    go_loopw [3, 14] (fun so si wr => ∃ k : Nat, k ≤ P.np ∧ si = .int .i64 k ∧ so = .string ⟨(linesTo P.lineP k).toArray⟩ ∧ Hid (Below w1.heap.size w1 wr)) (fun _ si _ => P.np - (intOf si).toNat)
    case atStart => exact ⟨0, Nat.zero_le _, rfl, rfl, hS1.out⟩
    case round =>
      obtain ⟨k, hk, rfl, rfl, HQ⟩ := hrel
      by_cases hlt : k < P.np
      · have hkI : (k : Int) < (P.np : Int) := by omega
        rcases HR2.out with h0 | ⟨bb, off, rfl, hbb, hcc⟩
        · omega
        obtain ⟨c0, c1⟩ := hcc k hlt
        have T1 := HB1.out.trans (HQ.out.mono HB1.out.size)
        have d0 := (T1.cell (p := ⟨bb, off + k * 2, none⟩) hbb).trans c0
        have d1 := (T1.cell (p := ⟨bb, off + k * 2 + 1, none⟩) hbb).trans c1
        obtain ⟨⟨q0, q1⟩, ⟨q2, q3⟩⟩ := HOK.out.pieces k hlt
        have HLN : Hid (P.lineP k = [116, 114, 97, 99, 107, 32] ++ decL (P.L k).toNat ++ [32, 98, 114, 97, 107, 101, 32] ++ decL (P.B k).toNat ++ [10]) := rfl
        clear c0 c1 hcc T1
        go_wp2_with fail
        obtain ⟨X, hX⟩ : ∃ X, wr.heap.size = X := ⟨_, rfl⟩
        rw [hX]
        have h13 : (decL (P.L k).toNat).length ≤ 13 := dec_len (by omega)
        have h14 : (decL (P.B k).toNat).length ≤ 13 := dec_len (by omega)
        generalize hW2 : wr.alloc _ = W2
        have b2 : Below wr.heap.size wr W2 := by rw [← hW2]; exact (Below.refl _ _).alloc (Nat.le_refl _) _
        have y0 : W2.cell? ⟨X, 0, none⟩ = some (.int .i64 (P.L k)) := by subst hW2 hX; go_simp
        have y1 : W2.cell? ⟨X, 1, none⟩ = some (.int .i64 (P.B k)) := by subst hW2 hX; go_simp
        have HXW : Hid (X < W2.heap.size) := World.block_lt_of_cell? _ _ y0
        have HQ2 : Hid (Below w1.heap.size w1 W2) := HQ.out.trans (b2.mono HQ.out.size)
        clear hW2 hX d0 d1 HQ b2
        obtain ⟨Dl, hDl⟩ : ∃ Dl, decL (P.L k).toNat = Dl := ⟨_, rfl⟩
        obtain ⟨Db, hDb⟩ : ∃ Db, decL (P.B k).toNat = Db := ⟨_, rfl⟩
        have cL : Hid (∀ y, Calls Tryd.prog 18 #[.int .i64 (P.L k)] y fun e w' => e = .returned (.string ⟨Dl.toArray⟩) ∧ Below y.heap.size y w') := fun y => by rw [← hDl]; exact dec_any _ (by omega) (by omega) y
        have cB : Hid (∀ y, Calls Tryd.prog 18 #[.int .i64 (P.B k)] y fun e w' => e = .returned (.string ⟨Db.toArray⟩) ∧ Below y.heap.size y w') := fun y => by rw [← hDb]; exact dec_any _ (by omega) (by omega) y
        rw [hDl] at HLN h13
        rw [hDb] at HLN h14
        obtain ⟨O, hO⟩ : ∃ O, linesTo P.lineP k = O := ⟨_, rfl⟩
        rw [hO]
        have hOl : O.length ≤ 2400 := by
          rw [← hO]
          have := linesTo_len (f := P.lineP) (m := 40) k (fun j hj => by
            obtain ⟨⟨_, r1⟩, ⟨_, r3⟩⟩ := HOK.out.pieces j (by omega)
            have g1 := dec_len (x := P.L j) (by omega)
            have g2 := dec_len (x := P.B j) (by omega)
            unfold Prof.lineP
            simp only [List.length_append, List.length_cons, List.length_nil]
            omega)
          have := HOK.out.counts.2.1
          omega
        have HO : Hid (linesTo P.lineP k = O) := hO
        clear hDl hDb hO
        generalize P.L k = l at *
        generalize P.B k = b at *
        obtain ⟨s4, hs4⟩ : ∃ s4, [116, 114, 97, 99, 107, 32] ++ Dl = s4 := ⟨_, rfl⟩
        have e4 : (⟨#[116, 114, 97, 99, 107, 32]⟩ : ByteArray) ++ ⟨Dl.toArray⟩ = ⟨s4.toArray⟩ := by rw [← hs4]; exact bytes_app [116, 114, 97, 99, 107, 32] Dl
        have l4 : s4.length = 6 + Dl.length := by rw [← hs4, List.length_append]; rfl
        obtain ⟨s5, hs5⟩ : ∃ s5, s4 ++ [32, 98, 114, 97, 107, 101, 32] = s5 := ⟨_, rfl⟩
        have e5 : (⟨s4.toArray⟩ : ByteArray) ++ ⟨#[32, 98, 114, 97, 107, 101, 32]⟩ = ⟨s5.toArray⟩ := by rw [← hs5]; exact bytes_app s4 [32, 98, 114, 97, 107, 101, 32]
        have l5 : s5.length = s4.length + 7 := by rw [← hs5, List.length_append]; rfl
        obtain ⟨s9, hs9⟩ : ∃ s9, s5 ++ Db = s9 := ⟨_, rfl⟩
        have e9 : (⟨s5.toArray⟩ : ByteArray) ++ ⟨Db.toArray⟩ = ⟨s9.toArray⟩ := by rw [← hs9]; exact bytes_app s5 Db
        have l9 : s9.length = s5.length + Db.length := by rw [← hs9, List.length_append]
        obtain ⟨s10, hs10⟩ : ∃ s10, s9 ++ [10] = s10 := ⟨_, rfl⟩
        have e10 : (⟨s9.toArray⟩ : ByteArray) ++ ⟨#[10]⟩ = ⟨s10.toArray⟩ := by rw [← hs10]; exact bytes_app s9 [10]
        have l10 : s10.length = s9.length + 1 := by rw [← hs10, List.length_append]; rfl
        obtain ⟨s11, hs11⟩ : ∃ s11, O ++ s10 = s11 := ⟨_, rfl⟩
        have e11 : (⟨O.toArray⟩ : ByteArray) ++ ⟨s10.toArray⟩ = ⟨s11.toArray⟩ := by rw [← hs11]; exact bytes_app O s10
        have HN : Hid (linesTo P.lineP (k + 1) = s11) := by
          show _ = _
          rw [linesTo, HO.out, HLN.out, ← hs11, ← hs10, ← hs9, ← hs5, ← hs4]
        have o4 : ¬ (9223372036854775807 < 6 + Dl.length) := by omega
        have o5 : ¬ (9223372036854775807 < s4.length + 7) := by omega
        have o9 : ¬ (9223372036854775807 < s5.length + Db.length) := by omega
        have o10 : ¬ (9223372036854775807 < s9.length + 1) := by omega
        have o11 : ¬ (9223372036854775807 < O.length + s10.length) := by omega
        clear hs4 hs5 hs9 hs10 hs11 l4 l5 l9 l10 hOl h13 h14
        have hS0 : (fun y : World => y.cell? ⟨X, 0, none⟩ = some (.int .i64 l) ∧ y.cell? ⟨X, 1, none⟩ = some (.int .i64 b)) W2.drew := ⟨y0, y1⟩
        clear y0 y1
        refine wp_region_held (S := (fun y : World => y.cell? ⟨X, 0, none⟩ = some (.int .i64 l) ∧ y.cell? ⟨X, 1, none⟩ = some (.int .i64 b))) (by kernel_rfl) ?_
        change wpAnyH _ _ _ _ _ 13 _ _ W2.drew
        refine wpAnyH_take (i := 0) (v := .string ⟨O.toArray⟩) rfl (by kernel_rfl) (by kernel_rfl) (by kernel_rfl) (fun _ _ _ h => h) (Or.inl ⟨by rfl, fun y hy => ?_⟩) hS0 ?_
        · obtain ⟨k0, k1⟩ := hy
          go_simp
        refine wpAnyH_take (i := 1) (v := .pointer (some ⟨X, 0, none⟩)) rfl (by kernel_rfl) (by kernel_rfl) (by kernel_rfl) (fun _ _ _ h => h) (Or.inl ⟨by rfl, fun y hy => ?_⟩) hS0 ?_
        · obtain ⟨k0, k1⟩ := hy
          go_simp
        refine wpAnyH_take (i := 2) (v := .int .i64 l) rfl (by kernel_rfl) (by kernel_rfl) (by kernel_rfl) (fun _ _ _ h => h) (Or.inl ⟨by rfl, fun y hy => ?_⟩) hS0 ?_
        · obtain ⟨k0, k1⟩ := hy
          go_simp
        refine wpAnyH_take (i := 6) (v := .pointer (some ⟨X, 1, none⟩)) rfl (by kernel_rfl) (by kernel_rfl) (by kernel_rfl) (fun _ _ _ h => h) (Or.inl ⟨by rfl, fun y hy => ?_⟩) hS0 ?_
        · obtain ⟨k0, k1⟩ := hy
          go_simp
        refine wpAnyH_take (i := 7) (v := .int .i64 b) rfl (by kernel_rfl) (by kernel_rfl) (by kernel_rfl) (fun _ _ _ h => h) (Or.inl ⟨by rfl, fun y hy => ?_⟩) hS0 ?_
        · obtain ⟨k0, k1⟩ := hy
          go_simp
        refine wpAnyH_sole (i := 3) rfl (by kernel_rfl) (fun K hK => ?_)
        refine step_one rfl 18 (.tmp 20) _ rfl (.int .i64 l) (by simp [Act.eval, Act.put]) eD.out (cL.out _) ?_
        rintro e w3 ⟨rfl, hb3⟩
        have hS3 : (fun y : World => y.cell? ⟨X, 0, none⟩ = some (.int .i64 l) ∧ y.cell? ⟨X, 1, none⟩ = some (.int .i64 b)) w3 := ⟨(hb3.cell (p := ⟨X, 0, none⟩) HXW.out).trans hS0.1, (hb3.cell (p := ⟨X, 1, none⟩) HXW.out).trans hS0.2⟩
        have HX3 : Hid (X < w3.heap.size) := Nat.lt_of_lt_of_le HXW.out hb3.size
        have HQ3 : Hid (Below w1.heap.size w1 w3) := HQ2.out.drew.trans (hb3.mono HQ2.out.size)
        clear hS0
        have hS0 := hS3
        refine ⟨_, rfl, hK _ _ hS0 ?_⟩
        clear hK K hb3 hS3 HQ2 HXW
        refine wpAnyH_take (i := 4) (v := .string ⟨s4.toArray⟩) rfl (by kernel_rfl) (by kernel_rfl) (by kernel_rfl) (fun _ _ _ h => h) (Or.inl ⟨by rfl, fun y hy => ?_⟩) hS0 ?_
        · obtain ⟨k0, k1⟩ := hy
          go_simp
        refine wpAnyH_take (i := 5) (v := .string ⟨s5.toArray⟩) rfl (by kernel_rfl) (by kernel_rfl) (by kernel_rfl) (fun _ _ _ h => h) (Or.inl ⟨by rfl, fun y hy => ?_⟩) hS0 ?_
        · obtain ⟨k0, k1⟩ := hy
          go_simp
        refine wpAnyH_sole (i := 8) rfl (by kernel_rfl) (fun K hK => ?_)
        refine step_one rfl 18 (.tmp 25) _ rfl (.int .i64 b) (by simp [Act.eval, Act.put]) eD.out (cB.out _) ?_
        rintro e w4 ⟨rfl, hb4⟩
        have hS3 : (fun y : World => y.cell? ⟨X, 0, none⟩ = some (.int .i64 l) ∧ y.cell? ⟨X, 1, none⟩ = some (.int .i64 b)) w4 := ⟨(hb4.cell (p := ⟨X, 0, none⟩) HX3.out).trans hS0.1, (hb4.cell (p := ⟨X, 1, none⟩) HX3.out).trans hS0.2⟩
        have HQ4 : Hid (Below w1.heap.size w1 w4) := HQ3.out.trans (hb4.mono HQ3.out.size)
        clear hS0
        have hS0 := hS3
        refine ⟨_, rfl, hK _ _ hS0 ?_⟩
        clear hK K hb4 hS3 HQ3 HX3
        refine wpAnyH_take (i := 9) (v := .string ⟨s9.toArray⟩) rfl (by kernel_rfl) (by kernel_rfl) (by kernel_rfl) (fun _ _ _ h => h) (Or.inl ⟨by rfl, fun y hy => ?_⟩) hS0 ?_
        · obtain ⟨k0, k1⟩ := hy
          go_simp
        refine wpAnyH_take (i := 10) (v := .string ⟨s10.toArray⟩) rfl (by kernel_rfl) (by kernel_rfl) (by kernel_rfl) (fun _ _ _ h => h) (Or.inl ⟨by rfl, fun y hy => ?_⟩) hS0 ?_
        · obtain ⟨k0, k1⟩ := hy
          go_simp
        refine wpAnyH_take (i := 11) (v := .string ⟨s11.toArray⟩) rfl (by kernel_rfl) (by kernel_rfl) (by kernel_rfl) (fun _ _ _ h => h) (Or.inl ⟨by rfl, fun y hy => ?_⟩) hS0 ?_
        · obtain ⟨k0, k1⟩ := hy
          go_simp
        refine wpAnyH_sole (i := 12) rfl (by kernel_rfl) (fun K hK => ?_)
        go_simp
        refine hK _ _ hS0 ?_
        clear hK K
        refine wpAnyH_done (by kernel_rfl) ?_ _
        clear hS0 e4 e5 e9 e10 e11 o4 o5 o9 o10 o11
        go_wp2
        go_roundw
        case rel => exact ⟨k + 1, by omega, by go_num, by rw [HN.out], HQ4.out⟩
        case measure => simp [intOf]; omega
      · have hnl : decide ((k : Int) < (P.np : Int)) = false := by simp; omega
        have ek : k = P.np := by omega
        subst ek
        obtain ⟨x0, x1, x2, x3, x4⟩ := HBX1.out.below HQ.out
        go_wp2_with fail
        clear x0 x1 x2 x3 x4
        have hS2 : Hid (Below wr.heap.size wr wr) := Below.refl _ _
        have HB2 : Hid (Below w.heap.size w wr) := HB1.out.trans (HQ.out.mono HB1.out.size)
        have HBX2 : Hid (P.BoxAt wr pb ap az cp cz) := HBX1.out.below HQ.out
        obtain ⟨O0, hO0⟩ : ∃ O0, linesTo P.lineP P.np = O0 := ⟨_, rfl⟩
        have HO0 : Hid (linesTo P.lineP P.np = O0) := hO0
        rw [hO0]
        clear hO0 HQ
        generalize wr = wz at *
        have hOl0 : O0.length ≤ 2400 := by
          rw [← HO0.out]
          have := linesTo_len (f := P.lineP) (m := 40) P.np (fun j hj => by
            obtain ⟨⟨_, r1⟩, ⟨_, r3⟩⟩ := HOK.out.pieces j hj
            have g1 := dec_len (x := P.L j) (by omega)
            have g2 := dec_len (x := P.B j) (by omega)
            unfold Prof.lineP
            simp only [List.length_append, List.length_cons, List.length_nil]
            omega)
          have := HOK.out.counts.2.1
          omega
        have HOL0 : Hid (O0.length ≤ 2400) := hOl0
        have htot := (Prof.total_bounds HOK.out.lens).2
        have HZL : Hid (∀ k, k ≤ P.nz → (linesTo P.lineZ k).length ≤ 3060) := fun k hk => by
          have := linesTo_len (f := P.lineZ) (m := 50) k (fun j hj => by
            obtain ⟨⟨_, r1⟩, ⟨_, r3⟩, ⟨_, r5⟩⟩ := HOK.out.zones j (by omega)
            have g1 := dec_len (x := P.F j) (by omega)
            have g2 := dec_len (x := P.T j) (by omega)
            have g3 := dec_len (x := P.S j) (by omega)
            unfold Prof.lineZ
            simp only [List.length_append, List.length_cons, List.length_nil]
            omega)
          have := HOK.out.counts.2.2
          omega
        clear hOl0 hnl
        go_loopw [3, 34] (fun so si wr => ∃ k : Nat, k ≤ P.nz ∧ si = .int .i64 k ∧ so = .string ⟨(O0 ++ linesTo P.lineZ k).toArray⟩ ∧ Hid (Below wz.heap.size wz wr)) (fun _ si _ => P.nz - (intOf si).toNat)
        case atStart => exact ⟨0, Nat.zero_le _, rfl, by simp [linesTo], hS2.out⟩
        case round =>
          obtain ⟨k, hk, rfl, rfl, HQ⟩ := hrel
          by_cases hlt : k < P.nz
          · have hkI : (k : Int) < (P.nz : Int) := by omega
            rcases HR3.out with h0 | ⟨bb, off, rfl, hbb, hcc⟩
            · omega
            obtain ⟨c0, c1, c2⟩ := hcc k hlt
            have T1 := HB2.out.trans (HQ.out.mono HB2.out.size)
            have d0 := (T1.cell (p := ⟨bb, off + k * 3, none⟩) hbb).trans c0
            have d1 := (T1.cell (p := ⟨bb, off + k * 3 + 1, none⟩) hbb).trans c1
            have d2 := (T1.cell (p := ⟨bb, off + k * 3 + 2, none⟩) hbb).trans c2
            obtain ⟨⟨q0, q1⟩, ⟨q2, q3⟩, ⟨q4, q5⟩⟩ := HOK.out.zones k hlt
            have HLN : Hid (P.lineZ k = [108, 105, 109, 105, 116, 32] ++ decL (P.F k).toNat ++ [32] ++ decL (P.T k).toNat ++ [32] ++ decL (P.S k).toNat ++ [10]) := rfl
            clear c0 c1 c2 hcc T1
            go_wp2_with fail
            obtain ⟨X, hX⟩ : ∃ X, wr.heap.size = X := ⟨_, rfl⟩
            rw [hX]
            have h13 : (decL (P.F k).toNat).length ≤ 13 := dec_len (by omega)
            have h14 : (decL (P.T k).toNat).length ≤ 13 := dec_len (by omega)
            have h15 : (decL (P.S k).toNat).length ≤ 13 := dec_len (by omega)
            generalize hW2 : wr.alloc _ = W2
            have b2 : Below wr.heap.size wr W2 := by rw [← hW2]; exact (Below.refl _ _).alloc (Nat.le_refl _) _
            have y0 : W2.cell? ⟨X, 0, none⟩ = some (.int .i64 (P.F k)) := by subst hW2 hX; go_simp
            have y1 : W2.cell? ⟨X, 1, none⟩ = some (.int .i64 (P.T k)) := by subst hW2 hX; go_simp
            have y2 : W2.cell? ⟨X, 2, none⟩ = some (.int .i64 (P.S k)) := by subst hW2 hX; go_simp
            have HXW : Hid (X < W2.heap.size) := World.block_lt_of_cell? _ _ y0
            have HQ2 : Hid (Below wz.heap.size wz W2) := HQ.out.trans (b2.mono HQ.out.size)
            clear hW2 hX d0 d1 d2 HQ b2
            obtain ⟨Df, hDf⟩ : ∃ Df, decL (P.F k).toNat = Df := ⟨_, rfl⟩
            obtain ⟨Dt, hDt⟩ : ∃ Dt, decL (P.T k).toNat = Dt := ⟨_, rfl⟩
            obtain ⟨Dd, hDd⟩ : ∃ Dd, decL (P.S k).toNat = Dd := ⟨_, rfl⟩
            have cF : Hid (∀ y, Calls Tryd.prog 18 #[.int .i64 (P.F k)] y fun e w' => e = .returned (.string ⟨Df.toArray⟩) ∧ Below y.heap.size y w') := fun y => by rw [← hDf]; exact dec_any _ (by omega) (by omega) y
            have cT : Hid (∀ y, Calls Tryd.prog 18 #[.int .i64 (P.T k)] y fun e w' => e = .returned (.string ⟨Dt.toArray⟩) ∧ Below y.heap.size y w') := fun y => by rw [← hDt]; exact dec_any _ (by omega) (by omega) y
            have cD : Hid (∀ y, Calls Tryd.prog 18 #[.int .i64 (P.S k)] y fun e w' => e = .returned (.string ⟨Dd.toArray⟩) ∧ Below y.heap.size y w') := fun y => by rw [← hDd]; exact dec_any _ (by omega) (by omega) y
            rw [hDf] at HLN h13
            rw [hDt] at HLN h14
            rw [hDd] at HLN h15
            obtain ⟨O, hO⟩ : ∃ O, O0 ++ linesTo P.lineZ k = O := ⟨_, rfl⟩
            rw [hO]
            have hOl : O.length ≤ 6000 := by
              rw [← hO, List.length_append]
              have := HZL.out k hk
              have := HOL0.out
              omega
            have HO : Hid (O0 ++ linesTo P.lineZ k = O) := hO
            clear hDf hDt hDd hO
            generalize P.F k = f at *
            generalize P.T k = t at *
            generalize P.S k = d at *
            obtain ⟨s4, hs4⟩ : ∃ s4, [108, 105, 109, 105, 116, 32] ++ Df = s4 := ⟨_, rfl⟩
            have es4 : (⟨#[108, 105, 109, 105, 116, 32]⟩ : ByteArray) ++ ⟨Df.toArray⟩ = ⟨s4.toArray⟩ := by rw [← hs4]; exact bytes_app [108, 105, 109, 105, 116, 32] Df
            have ls4 : s4.length = 6 + Df.length := by rw [← hs4, List.length_append]; rfl
            have os4 : ¬ (9223372036854775807 < 6 + Df.length) := by omega
            obtain ⟨s5, hs5⟩ : ∃ s5, s4 ++ [32] = s5 := ⟨_, rfl⟩
            have es5 : (⟨s4.toArray⟩ : ByteArray) ++ ⟨#[32]⟩ = ⟨s5.toArray⟩ := by rw [← hs5]; exact bytes_app s4 [32]
            have ls5 : s5.length = s4.length + 1 := by rw [← hs5, List.length_append]; rfl
            have os5 : ¬ (9223372036854775807 < s4.length + 1) := by omega
            obtain ⟨s9, hs9⟩ : ∃ s9, s5 ++ Dt = s9 := ⟨_, rfl⟩
            have es9 : (⟨s5.toArray⟩ : ByteArray) ++ ⟨Dt.toArray⟩ = ⟨s9.toArray⟩ := by rw [← hs9]; exact bytes_app s5 Dt
            have ls9 : s9.length = s5.length + Dt.length := by rw [← hs9, List.length_append]
            have os9 : ¬ (9223372036854775807 < s5.length + Dt.length) := by omega
            obtain ⟨s10, hs10⟩ : ∃ s10, s9 ++ [32] = s10 := ⟨_, rfl⟩
            have es10 : (⟨s9.toArray⟩ : ByteArray) ++ ⟨#[32]⟩ = ⟨s10.toArray⟩ := by rw [← hs10]; exact bytes_app s9 [32]
            have ls10 : s10.length = s9.length + 1 := by rw [← hs10, List.length_append]; rfl
            have os10 : ¬ (9223372036854775807 < s9.length + 1) := by omega
            obtain ⟨s14, hs14⟩ : ∃ s14, s10 ++ Dd = s14 := ⟨_, rfl⟩
            have es14 : (⟨s10.toArray⟩ : ByteArray) ++ ⟨Dd.toArray⟩ = ⟨s14.toArray⟩ := by rw [← hs14]; exact bytes_app s10 Dd
            have ls14 : s14.length = s10.length + Dd.length := by rw [← hs14, List.length_append]
            have os14 : ¬ (9223372036854775807 < s10.length + Dd.length) := by omega
            obtain ⟨s15, hs15⟩ : ∃ s15, s14 ++ [10] = s15 := ⟨_, rfl⟩
            have es15 : (⟨s14.toArray⟩ : ByteArray) ++ ⟨#[10]⟩ = ⟨s15.toArray⟩ := by rw [← hs15]; exact bytes_app s14 [10]
            have ls15 : s15.length = s14.length + 1 := by rw [← hs15, List.length_append]; rfl
            have os15 : ¬ (9223372036854775807 < s14.length + 1) := by omega
            obtain ⟨s16, hs16⟩ : ∃ s16, O ++ s15 = s16 := ⟨_, rfl⟩
            have es16 : (⟨O.toArray⟩ : ByteArray) ++ ⟨s15.toArray⟩ = ⟨s16.toArray⟩ := by rw [← hs16]; exact bytes_app O s15
            have ls16 : s16.length = O.length + s15.length := by rw [← hs16, List.length_append]
            have os16 : ¬ (9223372036854775807 < O.length + s15.length) := by omega
            have HN : Hid (O0 ++ linesTo P.lineZ (k + 1) = s16) := by
              show _ = _
              rw [linesTo, ← List.append_assoc, HO.out, HLN.out, ← hs16, ← hs15, ← hs14, ← hs10, ← hs9, ← hs5, ← hs4]
            clear hs4 hs5 hs9 hs10 hs14 hs15 hs16 ls4 ls5 ls9 ls10 ls14 ls15 ls16 hOl h13 h14 h15
            have hS0 : (fun y : World => y.cell? ⟨X, 0, none⟩ = some (.int .i64 f) ∧ y.cell? ⟨X, 1, none⟩ = some (.int .i64 t) ∧ y.cell? ⟨X, 2, none⟩ = some (.int .i64 d)) W2.drew := ⟨y0, y1, y2⟩
            clear y0 y1 y2
            refine wp_region_held (S := (fun y : World => y.cell? ⟨X, 0, none⟩ = some (.int .i64 f) ∧ y.cell? ⟨X, 1, none⟩ = some (.int .i64 t) ∧ y.cell? ⟨X, 2, none⟩ = some (.int .i64 d))) (by kernel_rfl) ?_
            change wpAnyH _ _ _ _ _ 18 _ _ W2.drew
            refine wpAnyH_take (i := 0) (v := .string ⟨O.toArray⟩) rfl (by kernel_rfl) (by kernel_rfl) (by kernel_rfl) (fun _ _ _ h => h) (Or.inl ⟨by rfl, fun y hy => ?_⟩) hS0 ?_
            · obtain ⟨k0, k1, k2⟩ := hy
              go_simp
            refine wpAnyH_take (i := 1) (v := .pointer (some ⟨X, 0, none⟩)) rfl (by kernel_rfl) (by kernel_rfl) (by kernel_rfl) (fun _ _ _ h => h) (Or.inl ⟨by rfl, fun y hy => ?_⟩) hS0 ?_
            · obtain ⟨k0, k1, k2⟩ := hy
              go_simp
            refine wpAnyH_take (i := 2) (v := .int .i64 f) rfl (by kernel_rfl) (by kernel_rfl) (by kernel_rfl) (fun _ _ _ h => h) (Or.inl ⟨by rfl, fun y hy => ?_⟩) hS0 ?_
            · obtain ⟨k0, k1, k2⟩ := hy
              go_simp
            refine wpAnyH_take (i := 6) (v := .pointer (some ⟨X, 1, none⟩)) rfl (by kernel_rfl) (by kernel_rfl) (by kernel_rfl) (fun _ _ _ h => h) (Or.inl ⟨by rfl, fun y hy => ?_⟩) hS0 ?_
            · obtain ⟨k0, k1, k2⟩ := hy
              go_simp
            refine wpAnyH_take (i := 7) (v := .int .i64 t) rfl (by kernel_rfl) (by kernel_rfl) (by kernel_rfl) (fun _ _ _ h => h) (Or.inl ⟨by rfl, fun y hy => ?_⟩) hS0 ?_
            · obtain ⟨k0, k1, k2⟩ := hy
              go_simp
            refine wpAnyH_take (i := 11) (v := .pointer (some ⟨X, 2, none⟩)) rfl (by kernel_rfl) (by kernel_rfl) (by kernel_rfl) (fun _ _ _ h => h) (Or.inl ⟨by rfl, fun y hy => ?_⟩) hS0 ?_
            · obtain ⟨k0, k1, k2⟩ := hy
              go_simp
            refine wpAnyH_take (i := 12) (v := .int .i64 d) rfl (by kernel_rfl) (by kernel_rfl) (by kernel_rfl) (fun _ _ _ h => h) (Or.inl ⟨by rfl, fun y hy => ?_⟩) hS0 ?_
            · obtain ⟨k0, k1, k2⟩ := hy
              go_simp
            refine wpAnyH_sole (i := 3) rfl (by kernel_rfl) (fun K hK => ?_)
            refine step_one rfl 18 (.tmp 40) _ rfl (.int .i64 f) (by simp [Act.eval, Act.put]) eD.out (cF.out _) ?_
            rintro e w3 ⟨rfl, hb⟩
            have hS3 : (fun y : World => y.cell? ⟨X, 0, none⟩ = some (.int .i64 f) ∧ y.cell? ⟨X, 1, none⟩ = some (.int .i64 t) ∧ y.cell? ⟨X, 2, none⟩ = some (.int .i64 d)) w3 := ⟨(hb.cell (p := ⟨X, 0, none⟩) HXW.out).trans hS0.1, (hb.cell (p := ⟨X, 1, none⟩) HXW.out).trans hS0.2.1, (hb.cell (p := ⟨X, 2, none⟩) HXW.out).trans hS0.2.2⟩
            have HX3 : Hid (X < w3.heap.size) := Nat.lt_of_lt_of_le HXW.out hb.size
            have HQ3 : Hid (Below wz.heap.size wz w3) := HQ2.out.drew.trans (hb.mono HQ2.out.size)
            clear hS0
            have hS0 := hS3
            refine ⟨_, rfl, hK _ _ hS0 ?_⟩
            clear hK K hb hS3 HQ2 HXW
            refine wpAnyH_take (i := 4) (v := .string ⟨s4.toArray⟩) rfl (by kernel_rfl) (by kernel_rfl) (by kernel_rfl) (fun _ _ _ h => h) (Or.inl ⟨by rfl, fun y hy => ?_⟩) hS0 ?_
            · obtain ⟨k0, k1, k2⟩ := hy
              go_simp
            refine wpAnyH_take (i := 5) (v := .string ⟨s5.toArray⟩) rfl (by kernel_rfl) (by kernel_rfl) (by kernel_rfl) (fun _ _ _ h => h) (Or.inl ⟨by rfl, fun y hy => ?_⟩) hS0 ?_
            · obtain ⟨k0, k1, k2⟩ := hy
              go_simp
            refine wpAnyH_sole (i := 8) rfl (by kernel_rfl) (fun K hK => ?_)
            refine step_one rfl 18 (.tmp 45) _ rfl (.int .i64 t) (by simp [Act.eval, Act.put]) eD.out (cT.out _) ?_
            rintro e w4 ⟨rfl, hb⟩
            have hS3 : (fun y : World => y.cell? ⟨X, 0, none⟩ = some (.int .i64 f) ∧ y.cell? ⟨X, 1, none⟩ = some (.int .i64 t) ∧ y.cell? ⟨X, 2, none⟩ = some (.int .i64 d)) w4 := ⟨(hb.cell (p := ⟨X, 0, none⟩) HX3.out).trans hS0.1, (hb.cell (p := ⟨X, 1, none⟩) HX3.out).trans hS0.2.1, (hb.cell (p := ⟨X, 2, none⟩) HX3.out).trans hS0.2.2⟩
            have HX4 : Hid (X < w4.heap.size) := Nat.lt_of_lt_of_le HX3.out hb.size
            have HQ4 : Hid (Below wz.heap.size wz w4) := HQ3.out.trans (hb.mono HQ3.out.size)
            clear hS0
            have hS0 := hS3
            refine ⟨_, rfl, hK _ _ hS0 ?_⟩
            clear hK K hb hS3 HQ3 HX3
            refine wpAnyH_take (i := 9) (v := .string ⟨s9.toArray⟩) rfl (by kernel_rfl) (by kernel_rfl) (by kernel_rfl) (fun _ _ _ h => h) (Or.inl ⟨by rfl, fun y hy => ?_⟩) hS0 ?_
            · obtain ⟨k0, k1, k2⟩ := hy
              go_simp
            refine wpAnyH_take (i := 10) (v := .string ⟨s10.toArray⟩) rfl (by kernel_rfl) (by kernel_rfl) (by kernel_rfl) (fun _ _ _ h => h) (Or.inl ⟨by rfl, fun y hy => ?_⟩) hS0 ?_
            · obtain ⟨k0, k1, k2⟩ := hy
              go_simp
            refine wpAnyH_sole (i := 13) rfl (by kernel_rfl) (fun K hK => ?_)
            refine step_one rfl 18 (.tmp 50) _ rfl (.int .i64 d) (by simp [Act.eval, Act.put]) eD.out (cD.out _) ?_
            rintro e w5 ⟨rfl, hb⟩
            have hS3 : (fun y : World => y.cell? ⟨X, 0, none⟩ = some (.int .i64 f) ∧ y.cell? ⟨X, 1, none⟩ = some (.int .i64 t) ∧ y.cell? ⟨X, 2, none⟩ = some (.int .i64 d)) w5 := ⟨(hb.cell (p := ⟨X, 0, none⟩) HX4.out).trans hS0.1, (hb.cell (p := ⟨X, 1, none⟩) HX4.out).trans hS0.2.1, (hb.cell (p := ⟨X, 2, none⟩) HX4.out).trans hS0.2.2⟩
            have HX5 : Hid (X < w5.heap.size) := Nat.lt_of_lt_of_le HX4.out hb.size
            have HQ5 : Hid (Below wz.heap.size wz w5) := HQ4.out.trans (hb.mono HQ4.out.size)
            clear hS0
            have hS0 := hS3
            refine ⟨_, rfl, hK _ _ hS0 ?_⟩
            clear hK K hb hS3 HQ4 HX4
            refine wpAnyH_take (i := 14) (v := .string ⟨s14.toArray⟩) rfl (by kernel_rfl) (by kernel_rfl) (by kernel_rfl) (fun _ _ _ h => h) (Or.inl ⟨by rfl, fun y hy => ?_⟩) hS0 ?_
            · obtain ⟨k0, k1, k2⟩ := hy
              go_simp
            refine wpAnyH_take (i := 15) (v := .string ⟨s15.toArray⟩) rfl (by kernel_rfl) (by kernel_rfl) (by kernel_rfl) (fun _ _ _ h => h) (Or.inl ⟨by rfl, fun y hy => ?_⟩) hS0 ?_
            · obtain ⟨k0, k1, k2⟩ := hy
              go_simp
            refine wpAnyH_take (i := 16) (v := .string ⟨s16.toArray⟩) rfl (by kernel_rfl) (by kernel_rfl) (by kernel_rfl) (fun _ _ _ h => h) (Or.inl ⟨by rfl, fun y hy => ?_⟩) hS0 ?_
            · obtain ⟨k0, k1, k2⟩ := hy
              go_simp
            refine wpAnyH_sole (i := 17) rfl (by kernel_rfl) (fun K hK => ?_)
            go_simp
            refine hK _ _ hS0 ?_
            clear hK K
            refine wpAnyH_done (by kernel_rfl) ?_ _
            clear hS0 es4 es5 es9 es10 es14 es15 es16 os4 os5 os9 os10 os14 os15 os16
            go_wp2
            go_roundw
            case rel => exact ⟨k + 1, by omega, by go_num, by rw [HN.out], HQ5.out⟩
            case measure => simp [intOf]; omega
          · have hnl : decide ((k : Int) < (P.nz : Int)) = false := by simp; omega
            have ek : k = P.nz := by omega
            subst ek
            have HB3 : Hid (Below w.heap.size w wr) := HB2.out.trans (HQ.out.mono HB2.out.size)
            obtain ⟨x0, x1, x2, x3, x4⟩ := HBX2.out.below HQ.out
            have HPL : Hid (pb < wr.heap.size) := World.block_lt_of_cell? _ _ x0
            obtain ⟨O, hO⟩ : ∃ O, O0 ++ linesTo P.lineZ P.nz = O := ⟨_, rfl⟩
            rw [hO]
            have hOl : O.length ≤ 6000 := by
              rw [← hO, List.length_append]
              have := HZL.out P.nz (Nat.le_refl _)
              have := HOL0.out
              omega
            have HO : Hid (O0 ++ linesTo P.lineZ P.nz = O) := hO
            clear hO HQ HB2 HBX2
            go_wp2_with fail
            have HLN : Hid (P.lineT = [116, 114, 97, 105, 110, 32] ++ decL P.train.toNat ++ [32, 101, 110, 100, 32] ++ decL P.fin.toNat ++ [32, 100, 101, 108, 97, 121, 32] ++ decL P.delay.toNat ++ [10]) := rfl
            obtain ⟨q0, q1⟩ := HOK.out.train
            obtain ⟨q2, q3⟩ := HOK.out.fin
            obtain ⟨q4, q5⟩ := HOK.out.delay
            have h13 : (decL P.train.toNat).length ≤ 13 := dec_len (by omega)
            have h14 : (decL P.fin.toNat).length ≤ 13 := dec_len (by omega)
            have h15 : (decL P.delay.toNat).length ≤ 13 := dec_len (by omega)
            obtain ⟨Df, hDf⟩ : ∃ Df, decL P.train.toNat = Df := ⟨_, rfl⟩
            obtain ⟨Dt, hDt⟩ : ∃ Dt, decL P.fin.toNat = Dt := ⟨_, rfl⟩
            obtain ⟨Dd, hDd⟩ : ∃ Dd, decL P.delay.toNat = Dd := ⟨_, rfl⟩
            have cF : Hid (∀ y, Calls Tryd.prog 18 #[.int .i64 P.train] y fun e w' => e = .returned (.string ⟨Df.toArray⟩) ∧ Below y.heap.size y w') := fun y => by rw [← hDf]; exact dec_any _ (by omega) (by omega) y
            have cT : Hid (∀ y, Calls Tryd.prog 18 #[.int .i64 P.fin] y fun e w' => e = .returned (.string ⟨Dt.toArray⟩) ∧ Below y.heap.size y w') := fun y => by rw [← hDt]; exact dec_any _ (by omega) (by omega) y
            have cD : Hid (∀ y, Calls Tryd.prog 18 #[.int .i64 P.delay] y fun e w' => e = .returned (.string ⟨Dd.toArray⟩) ∧ Below y.heap.size y w') := fun y => by rw [← hDd]; exact dec_any _ (by omega) (by omega) y
            rw [hDf] at HLN h13
            rw [hDt] at HLN h14
            rw [hDd] at HLN h15
            clear hDf hDt hDd
            obtain ⟨s4, hs4⟩ : ∃ s4, [116, 114, 97, 105, 110, 32] ++ Df = s4 := ⟨_, rfl⟩
            have es4 : (⟨#[116, 114, 97, 105, 110, 32]⟩ : ByteArray) ++ ⟨Df.toArray⟩ = ⟨s4.toArray⟩ := by rw [← hs4]; exact bytes_app [116, 114, 97, 105, 110, 32] Df
            have ls4 : s4.length = 6 + Df.length := by rw [← hs4, List.length_append]; rfl
            have os4 : ¬ (9223372036854775807 < 6 + Df.length) := by omega
            obtain ⟨s5, hs5⟩ : ∃ s5, s4 ++ [32, 101, 110, 100, 32] = s5 := ⟨_, rfl⟩
            have es5 : (⟨s4.toArray⟩ : ByteArray) ++ ⟨#[32, 101, 110, 100, 32]⟩ = ⟨s5.toArray⟩ := by rw [← hs5]; exact bytes_app s4 [32, 101, 110, 100, 32]
            have ls5 : s5.length = s4.length + 5 := by rw [← hs5, List.length_append]; rfl
            have os5 : ¬ (9223372036854775807 < s4.length + 5) := by omega
            obtain ⟨s9, hs9⟩ : ∃ s9, s5 ++ Dt = s9 := ⟨_, rfl⟩
            have es9 : (⟨s5.toArray⟩ : ByteArray) ++ ⟨Dt.toArray⟩ = ⟨s9.toArray⟩ := by rw [← hs9]; exact bytes_app s5 Dt
            have ls9 : s9.length = s5.length + Dt.length := by rw [← hs9, List.length_append]
            have os9 : ¬ (9223372036854775807 < s5.length + Dt.length) := by omega
            obtain ⟨s10, hs10⟩ : ∃ s10, s9 ++ [32, 100, 101, 108, 97, 121, 32] = s10 := ⟨_, rfl⟩
            have es10 : (⟨s9.toArray⟩ : ByteArray) ++ ⟨#[32, 100, 101, 108, 97, 121, 32]⟩ = ⟨s10.toArray⟩ := by rw [← hs10]; exact bytes_app s9 [32, 100, 101, 108, 97, 121, 32]
            have ls10 : s10.length = s9.length + 7 := by rw [← hs10, List.length_append]; rfl
            have os10 : ¬ (9223372036854775807 < s9.length + 7) := by omega
            obtain ⟨s14, hs14⟩ : ∃ s14, s10 ++ Dd = s14 := ⟨_, rfl⟩
            have es14 : (⟨s10.toArray⟩ : ByteArray) ++ ⟨Dd.toArray⟩ = ⟨s14.toArray⟩ := by rw [← hs14]; exact bytes_app s10 Dd
            have ls14 : s14.length = s10.length + Dd.length := by rw [← hs14, List.length_append]
            have os14 : ¬ (9223372036854775807 < s10.length + Dd.length) := by omega
            obtain ⟨s15, hs15⟩ : ∃ s15, s14 ++ [10] = s15 := ⟨_, rfl⟩
            have es15 : (⟨s14.toArray⟩ : ByteArray) ++ ⟨#[10]⟩ = ⟨s15.toArray⟩ := by rw [← hs15]; exact bytes_app s14 [10]
            have ls15 : s15.length = s14.length + 1 := by rw [← hs15, List.length_append]; rfl
            have os15 : ¬ (9223372036854775807 < s14.length + 1) := by omega
            obtain ⟨s16, hs16⟩ : ∃ s16, O ++ s15 = s16 := ⟨_, rfl⟩
            have es16 : (⟨O.toArray⟩ : ByteArray) ++ ⟨s15.toArray⟩ = ⟨s16.toArray⟩ := by rw [← hs16]; exact bytes_app O s15
            have ls16 : s16.length = O.length + s15.length := by rw [← hs16, List.length_append]
            have os16 : ¬ (9223372036854775807 < O.length + s15.length) := by omega
            have HN : Hid (P.textL = s16) := by
              show _ = _
              unfold Prof.textL
              rw [HO0.out, HO.out, HLN.out, ← hs16, ← hs15, ← hs14, ← hs10, ← hs9, ← hs5, ← hs4]
            have HLE : Hid (s16.length ≤ 9000) := by show _ ≤ _; omega
            clear hs4 hs5 hs9 hs10 hs14 hs15 hs16 ls4 ls5 ls9 ls10 ls14 ls15 ls16 hOl h13 h14 h15
            generalize P.train = f at *
            generalize P.fin = t at *
            generalize P.delay = d at *
            have hS0 : (fun y : World => y.cell? ⟨pb, 2, none⟩ = some (.int .i64 f) ∧ y.cell? ⟨pb, 3, none⟩ = some (.int .i64 t) ∧ y.cell? ⟨pb, 4, none⟩ = some (.int .i64 d)) wr.drew := ⟨x2, x3, x4⟩
            clear x0 x1 x2 x3 x4 q0 q1 q2 q3 q4 q5 htot hnl
            refine wp_region_held (S := (fun y : World => y.cell? ⟨pb, 2, none⟩ = some (.int .i64 f) ∧ y.cell? ⟨pb, 3, none⟩ = some (.int .i64 t) ∧ y.cell? ⟨pb, 4, none⟩ = some (.int .i64 d))) (by kernel_rfl) ?_
            change wpAnyH _ _ _ _ _ 18 _ _ wr.drew
            refine wpAnyH_take (i := 0) (v := .string ⟨O.toArray⟩) rfl (by kernel_rfl) (by kernel_rfl) (by kernel_rfl) (fun _ _ _ h => h) (Or.inl ⟨by rfl, fun y hy => ?_⟩) hS0 ?_
            · obtain ⟨k0, k1, k2⟩ := hy
              go_simp
            refine wpAnyH_take (i := 1) (v := .pointer (some ⟨pb, 2, none⟩)) rfl (by kernel_rfl) (by kernel_rfl) (by kernel_rfl) (fun _ _ _ h => h) (Or.inl ⟨by rfl, fun y hy => ?_⟩) hS0 ?_
            · obtain ⟨k0, k1, k2⟩ := hy
              go_simp
            refine wpAnyH_take (i := 2) (v := .int .i64 f) rfl (by kernel_rfl) (by kernel_rfl) (by kernel_rfl) (fun _ _ _ h => h) (Or.inl ⟨by rfl, fun y hy => ?_⟩) hS0 ?_
            · obtain ⟨k0, k1, k2⟩ := hy
              go_simp
            refine wpAnyH_take (i := 6) (v := .pointer (some ⟨pb, 3, none⟩)) rfl (by kernel_rfl) (by kernel_rfl) (by kernel_rfl) (fun _ _ _ h => h) (Or.inl ⟨by rfl, fun y hy => ?_⟩) hS0 ?_
            · obtain ⟨k0, k1, k2⟩ := hy
              go_simp
            refine wpAnyH_take (i := 7) (v := .int .i64 t) rfl (by kernel_rfl) (by kernel_rfl) (by kernel_rfl) (fun _ _ _ h => h) (Or.inl ⟨by rfl, fun y hy => ?_⟩) hS0 ?_
            · obtain ⟨k0, k1, k2⟩ := hy
              go_simp
            refine wpAnyH_take (i := 11) (v := .pointer (some ⟨pb, 4, none⟩)) rfl (by kernel_rfl) (by kernel_rfl) (by kernel_rfl) (fun _ _ _ h => h) (Or.inl ⟨by rfl, fun y hy => ?_⟩) hS0 ?_
            · obtain ⟨k0, k1, k2⟩ := hy
              go_simp
            refine wpAnyH_take (i := 12) (v := .int .i64 d) rfl (by kernel_rfl) (by kernel_rfl) (by kernel_rfl) (fun _ _ _ h => h) (Or.inl ⟨by rfl, fun y hy => ?_⟩) hS0 ?_
            · obtain ⟨k0, k1, k2⟩ := hy
              go_simp
            refine wpAnyH_sole (i := 3) rfl (by kernel_rfl) (fun K hK => ?_)
            refine step_one rfl 18 (.tmp 58) _ rfl (.int .i64 f) (by simp [Act.eval, Act.put]) eD.out (cF.out _) ?_
            rintro e w3 ⟨rfl, hb⟩
            have hS3 : (fun y : World => y.cell? ⟨pb, 2, none⟩ = some (.int .i64 f) ∧ y.cell? ⟨pb, 3, none⟩ = some (.int .i64 t) ∧ y.cell? ⟨pb, 4, none⟩ = some (.int .i64 d)) w3 := ⟨(hb.cell (p := ⟨pb, 2, none⟩) HPL.out).trans hS0.1, (hb.cell (p := ⟨pb, 3, none⟩) HPL.out).trans hS0.2.1, (hb.cell (p := ⟨pb, 4, none⟩) HPL.out).trans hS0.2.2⟩
            have HX3 : Hid (pb < w3.heap.size) := Nat.lt_of_lt_of_le HPL.out hb.size
            have HQ3 : Hid (Below w.heap.size w w3) := HB3.out.drew.trans (hb.mono HB3.out.size)
            clear hS0
            have hS0 := hS3
            refine ⟨_, rfl, hK _ _ hS0 ?_⟩
            clear hK K hb hS3 HB3 HPL
            refine wpAnyH_take (i := 4) (v := .string ⟨s4.toArray⟩) rfl (by kernel_rfl) (by kernel_rfl) (by kernel_rfl) (fun _ _ _ h => h) (Or.inl ⟨by rfl, fun y hy => ?_⟩) hS0 ?_
            · obtain ⟨k0, k1, k2⟩ := hy
              go_simp
            refine wpAnyH_take (i := 5) (v := .string ⟨s5.toArray⟩) rfl (by kernel_rfl) (by kernel_rfl) (by kernel_rfl) (fun _ _ _ h => h) (Or.inl ⟨by rfl, fun y hy => ?_⟩) hS0 ?_
            · obtain ⟨k0, k1, k2⟩ := hy
              go_simp
            refine wpAnyH_sole (i := 8) rfl (by kernel_rfl) (fun K hK => ?_)
            refine step_one rfl 18 (.tmp 63) _ rfl (.int .i64 t) (by simp [Act.eval, Act.put]) eD.out (cT.out _) ?_
            rintro e w4 ⟨rfl, hb⟩
            have hS3 : (fun y : World => y.cell? ⟨pb, 2, none⟩ = some (.int .i64 f) ∧ y.cell? ⟨pb, 3, none⟩ = some (.int .i64 t) ∧ y.cell? ⟨pb, 4, none⟩ = some (.int .i64 d)) w4 := ⟨(hb.cell (p := ⟨pb, 2, none⟩) HX3.out).trans hS0.1, (hb.cell (p := ⟨pb, 3, none⟩) HX3.out).trans hS0.2.1, (hb.cell (p := ⟨pb, 4, none⟩) HX3.out).trans hS0.2.2⟩
            have HX4 : Hid (pb < w4.heap.size) := Nat.lt_of_lt_of_le HX3.out hb.size
            have HQ4 : Hid (Below w.heap.size w w4) := HQ3.out.trans (hb.mono HQ3.out.size)
            clear hS0
            have hS0 := hS3
            refine ⟨_, rfl, hK _ _ hS0 ?_⟩
            clear hK K hb hS3 HQ3 HX3
            refine wpAnyH_take (i := 9) (v := .string ⟨s9.toArray⟩) rfl (by kernel_rfl) (by kernel_rfl) (by kernel_rfl) (fun _ _ _ h => h) (Or.inl ⟨by rfl, fun y hy => ?_⟩) hS0 ?_
            · obtain ⟨k0, k1, k2⟩ := hy
              go_simp
            refine wpAnyH_take (i := 10) (v := .string ⟨s10.toArray⟩) rfl (by kernel_rfl) (by kernel_rfl) (by kernel_rfl) (fun _ _ _ h => h) (Or.inl ⟨by rfl, fun y hy => ?_⟩) hS0 ?_
            · obtain ⟨k0, k1, k2⟩ := hy
              go_simp
            refine wpAnyH_sole (i := 13) rfl (by kernel_rfl) (fun K hK => ?_)
            refine step_one rfl 18 (.tmp 68) _ rfl (.int .i64 d) (by simp [Act.eval, Act.put]) eD.out (cD.out _) ?_
            rintro e w5 ⟨rfl, hb⟩
            have hS3 : (fun y : World => y.cell? ⟨pb, 2, none⟩ = some (.int .i64 f) ∧ y.cell? ⟨pb, 3, none⟩ = some (.int .i64 t) ∧ y.cell? ⟨pb, 4, none⟩ = some (.int .i64 d)) w5 := ⟨(hb.cell (p := ⟨pb, 2, none⟩) HX4.out).trans hS0.1, (hb.cell (p := ⟨pb, 3, none⟩) HX4.out).trans hS0.2.1, (hb.cell (p := ⟨pb, 4, none⟩) HX4.out).trans hS0.2.2⟩
            have HX5 : Hid (pb < w5.heap.size) := Nat.lt_of_lt_of_le HX4.out hb.size
            have HQ5 : Hid (Below w.heap.size w w5) := HQ4.out.trans (hb.mono HQ4.out.size)
            clear hS0
            have hS0 := hS3
            refine ⟨_, rfl, hK _ _ hS0 ?_⟩
            clear hK K hb hS3 HQ4 HX4
            refine wpAnyH_take (i := 14) (v := .string ⟨s14.toArray⟩) rfl (by kernel_rfl) (by kernel_rfl) (by kernel_rfl) (fun _ _ _ h => h) (Or.inl ⟨by rfl, fun y hy => ?_⟩) hS0 ?_
            · obtain ⟨k0, k1, k2⟩ := hy
              go_simp
            refine wpAnyH_take (i := 15) (v := .string ⟨s15.toArray⟩) rfl (by kernel_rfl) (by kernel_rfl) (by kernel_rfl) (fun _ _ _ h => h) (Or.inl ⟨by rfl, fun y hy => ?_⟩) hS0 ?_
            · obtain ⟨k0, k1, k2⟩ := hy
              go_simp
            refine wpAnyH_take (i := 16) (v := .string ⟨s16.toArray⟩) rfl (by kernel_rfl) (by kernel_rfl) (by kernel_rfl) (fun _ _ _ h => h) (Or.inl ⟨by rfl, fun y hy => ?_⟩) hS0 ?_
            · obtain ⟨k0, k1, k2⟩ := hy
              go_simp
            refine wpAnyH_sole (i := 17) rfl (by kernel_rfl) (fun K hK => ?_)
            go_simp
            refine hK _ _ hS0 ?_
            clear hK K
            refine wpAnyH_done (by kernel_rfl) ?_ _
            clear hS0 es4 es5 es9 es10 es14 es15 es16 os4 os5 os9 os10 os14 os15 os16
            have hle := HLE.out
            by_cases hl3 : 3000 < s16.length
            · have HA : Hid (P.textAns = []) := if_neg (fun c => by have := c.2; rw [HN.out] at this; omega)
              have hlI : (3000 : Int) < (s16.length : Int) := by omega
              go_wp2
              go_ret
              exact ⟨by rw [HA.out]; rfl, HQ5.out⟩
            · have HA : Hid (P.textAns = s16) := by
                show _ = _
                unfold Prof.textAns
                rw [if_pos ⟨Prof.code_zero.2 HOK.out, by rw [HN.out]; omega⟩, HN.out]
              have hlI : decide ((3000 : Int) < (s16.length : Int)) = false := by simp; omega
              go_wp2
              go_ret
              exact ⟨by rw [HA.out]; rfl, HQ5.out⟩
  · have HA : Hid (P.textAns = []) := if_neg (fun c => h c.1)
    have hc : (P.code == 0) = false := by simpa using h
    clear h
    go_wp2
    go_ret
    exact ⟨by rw [HA.out]; rfl, HB1.out⟩

end Go.Proofs.YteodefmpkljedaaDoor
