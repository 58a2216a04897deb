/-
  The model's search: its table, its line.
-/
import Derived.Test.YteodefmpkljedaaFill
import Derived.Test.YteodefmpkljedaaSpecRun
import Derived.Test.YteodefmpkljedaaLawHelp
import Derived.Test.YteodefmpkljedaaOwnRow
import Derived.Test.YteodefmpkljedaaImplWay
import Derived.Test.YteodefmpkljedaaUntil
import Derived.Shelf.Abstract
namespace Go.Proofs.Yteodefmpkljedaa
open Go.RowKit Go.Sort Go.Shelf
set_option linter.unusedVariables false

/-- The nine cells of the states' block. -/
def Prof.g9 (P : Prof) (ap az : Option Addr) (cp cz : Nat) (acc x short : Int) (lf : Value) : Nat → Value
  | 0 => .slice ap P.np cp
  | 1 => .slice az P.nz cz
  | 2 => .int .i64 P.train
  | 3 => .int .i64 P.fin
  | 4 => .int .i64 P.delay
  | 5 => .int .i64 acc
  | 6 => .int .i64 x
  | 7 => .int .i64 short
  | _ => lf
theorem Prof.g9_at {P : Prof} {w : World} {G T : Nat} {ap az : Option Addr} {cp cz : Nat} {acc x short : Int} {lf : Value} (h : w.rowIs G T 9 (P.g9 ap az cp cz acc x short lf)) : P.GAt w G ap az cp cz acc x short :=
  ⟨⟨h.cell (i := 0) (by omega), h.cell (i := 1) (by omega), h.cell (i := 2) (by omega), h.cell (i := 3) (by omega), h.cell (i := 4) (by omega)⟩, h.cell (i := 5) (by omega), h.cell (i := 6) (by omega), h.cell (i := 7) (by omega)⟩

theorem singles_same {f g : Nat → Int} : ∀ k, (∀ j, j < k → f j = g j) → singles f k = singles g k
  | 0, _ => rfl
  | k + 1, h => by rw [singles, singles, singles_same k (fun j hj => h j (by omega)), h k (by omega)]
theorem singles_upd (q : Nat → Nat) (len t : Nat) : singles (fun j => ((upd q len t j : Nat) : Int)) (len + 1) = singles (fun j => (q j : Int)) len ++ [.int .i64 (t : Int)] := by
  rw [singles, singles_same len (g := fun j => (q j : Int)) (fun j hj => by show ((upd q len t j : Nat) : Int) = _; rw [upd_other q t (show j ≠ len by omega)])]
  show _ ++ [Value.int .i64 ((upd q len t len : Nat) : Int)] = _
  rw [upd_same]
theorem owned_other {w : World} {base e size n : Nat} {v : Value} {xs : List Value} (h : w.ownsRow base e size v n xs) {a : Addr} (ha : a.block < base) (u : Value) : (w.setCell a u).ownsRow base e size v n xs := by
  obtain ⟨h1, h2⟩ := h
  refine ⟨h1, ?_⟩
  rcases h2 with h2 | ⟨g, cap, cur, h2, h3, h4, h5⟩
  · exact Or.inl h2
  · exact Or.inr ⟨g, cap, cur, h2, h3, (Go.Deep.blk_setCell_other w a u g (by omega)).trans h4, h5⟩
theorem table_set {w : World} {B N : Nat} {L : Nat → Int} (h : w.rowIs B 3 N (fun i => .int .i64 (L i))) (t : Nat) (v : Int) : (w.setCell ⟨B, t, none⟩ (.int .i64 v)).rowIs B 3 N (fun i => .int .i64 (upd L t v i)) := by
  refine (h.set t _).congr (fun i hi => ?_)
  by_cases c : i = t
  · subst c; rw [if_pos rfl, upd_same]
  · rw [if_neg c, upd_other L v c]

/-- A call of three arguments, taken by hand. -/
theorem step_call3 {P : Program} {ops : Array Oper} {o : Oper} {a : Act} {w : World} {K : Act → World → Prop} {Q : Exit → Act → World → Prop} {E : Prop}
    (hg : o.guard = none) (f : Nat) (s x y : Operand) (ts : Array TypeId) (hop : o.op = Op.call { callee := Callee.value (Operand.func f), args := #[s, x, y], argTypes := ts })
    (u1 u2 u3 : Value) (hs : a.eval s = u1) (hx : a.eval x = u2) (hy : a.eval y = u3) (eg : ∀ args w, (callFunc f args).run P w = .ok (.enter f args) w) {R : Ending → World → Prop} (hc : Calls P f #[u1, u2, u3] w R)
    (hK : ∀ e w', R e w' → ∃ v, e = .returned v ∧ K (a.put o.dst v) w') :
    if Region.wanted o (yielded ops a.tmps) = true then Oper.wp P o a w K Q else E := by
  have hw : Region.wanted o (yielded ops a.tmps) = true := by simp [Region.wanted, hg]
  rw [if_pos hw]
  have hrun : (execOp a.eval o).run P w = .ok (.enter f #[u1, u2, u3]) w := by
    have hf : a.eval (Operand.func f) = .func (.func f) #[] #[] := rfl
    simp [execOp, hop, resolve, invoke, hs, hx, hy, hf, eg, Deferred.ofValue]
  unfold Oper.wp
  rw [hrun]
  refine Calls.mono hc fun e w' h => ?_
  obtain ⟨v, rfl, hk⟩ := hK e w' h
  exact hk

theorem at_any (w : World) (g : Value) (d v : Int) (d0 : 0 ≤ d) (d1 : d ≤ 2000) (v0 : 0 ≤ v) (v1 : v ≤ 60) :
    Calls Try.prog 84 #[g, .int .i64 d, .int .i64 v] w fun e w' => e = .returned (.int .i64 (stn d v : Nat)) ∧ w' = w := by
  have HE := stn_of d0 v0 v1
  go_enter Try.func84, Try.ntmps84
  go_wp2
  go_ret
  exact ⟨ret_int HE.symm, rfl⟩

set_option maxRecDepth 20000 in
set_option maxHeartbeats 8000000 in
theorem fill_any (P : Prof) (w0 w : World) (G : Nat) (ap az : Option Addr) (cp cz : Nat) (acc x short : Int) (hr : w.rowIs G 115 9 (P.g9 ap az cp cz acc x short (.slice none 0 0))) (hl : P.Lies w0 (.agg #[.slice ap P.np cp, .slice az P.nz cz, .int .i64 P.train, .int .i64 P.fin, .int .i64 P.delay])) (hb : Below w0.heap.size w0 w) (hG : w0.heap.size ≤ G) (hgood : P.runGood acc x short = true) :
    Calls Try.prog 83 #[.pointer (some ⟨G, 0, none⟩)] w fun e w' => e = .returned (.tuple #[]) ∧ ∃ (B N : Nat) (L : Nat → Int), G ≠ B ∧ (N : Int) = (P.fin - x + 1) * 61 ∧ w'.rowIs G 115 9 (P.g9 ap az cp cz acc x short (.slice (some ⟨B, 0, none⟩) N N)) ∧ w'.rowIs B 3 N (fun i => .int .i64 (L i)) ∧ Fewest (P.way acc x) (P.homeN x short) L ∧ (∀ s, N ≤ s → L s < 0) ∧ Below w0.heap.size w0 w' := by
  obtain ⟨hok, ⟨a0, a1⟩, ⟨g0, g1⟩, g2, ⟨s0, s1⟩⟩ := Prof.runGood_iff.1 hgood
  have HL : Hid (P.Lies w0 (.agg #[.slice ap P.np cp, .slice az P.nz cz, .int .i64 P.train, .int .i64 P.fin, .int .i64 P.delay])) := hl
  have HOK : Hid P.Ok := hok
  have HR : Hid (w.rowIs G 115 9 (P.g9 ap az cp cz acc x short (.slice none 0 0))) := hr
  obtain ⟨f0, f1⟩ := hok.fin
  have ht := (Prof.total_bounds hok.lens).2
  obtain ⟨n, hn⟩ : ∃ n : Nat, P.fin - x = n := ⟨(P.fin - x).toNat, by omega⟩
  obtain ⟨N, hN⟩ : ∃ N : Nat, ((n : Int) + 1) * 61 = N := ⟨(n + 1) * 61, by omega⟩
  obtain ⟨i0, hi, hz0, hz1, hz2⟩ := info_parts Try.infoInt
  have hmk : ∀ w : World, (Instr.makeSlice 27 (.int .i64 (N : Int)) (.int .i64 (N : Int))).run Try.prog w = .ok (.slice (some ⟨w.heap.size, 0, none⟩) N N) (w.alloc (.cells (madeCells #[.int .i64 0] N) 3)) := by
    intro w
    have := run_make (P := Try.prog) w 27 3 i0 _ Try.underlying27 hi hz0 .i64 .i64 N N (by omega) (by omega) (by rw [hz2]; omega) (by omega)
    simpa [hz1, Value.cells] using this
  obtain ⟨⟨c0, c1, c2, c3, c4⟩, c5, c6, c7⟩ := Prof.g9_at hr
  have c8 : w.cell? ⟨G, 8, none⟩ = some (.slice none 0 0) := hr.cell (i := 8) (by omega)
  have cl := hr.lt
  have cb : ∀ nq N, Below w.heap.size w ((w.drewN nq).alloc (.cells (madeCells #[.int .i64 0] N) 3)) := fun nq N => (below_drewN (Below.refl _ _) nq).alloc (by simp) _
  have cf : ∀ nq N, ((w.drewN nq).alloc (.cells (madeCells #[.int .i64 0] N) 3)).frozen? ⟨G, 8, none⟩ = false := fun nq N => (rowIs_below HR.out (cb nq N)).frozen 8
  have cw : ∀ nq N, ((w.drewN nq).alloc (.cells (madeCells #[.int .i64 0] N) 3)).cell? ⟨G, 8, none⟩ = some (.slice none 0 0) := fun nq N => (rowIs_below HR.out (cb nq N)).cell (i := 8) (by omega)
  clear hr hl hok hgood c0 c1 c2 c4 c5 c7
  go_enter Try.func83, Try.ntmps83
  go_wp2_with fail
  go_quiet (fail)
  go_wp2
  go_loopw [33] (fun i wr => ∃ k : Nat, k ≤ N ∧ i = .int .i64 k ∧ Hid (wr.rowIs G 115 9 (P.g9 ap az cp cz acc x short (.slice (some ⟨w.heap.size, 0, none⟩) N N))) ∧ Hid (∃ f, wr.rowIs w.heap.size 3 N f ∧ ∀ j, j < k → f j = .int .i64 (-1)) ∧ Below w0.heap.size w0 wr) (fun i _ => N - (intOf i).toNat)
  case atStart =>
    refine ⟨0, Nat.zero_le _, rfl, ?_, ⟨_, World.rowIs.setOther (by simpa using World.rowIs_made (w.drewN nq) (.int .i64 0) N 3) (by simp; omega) _, fun j hj => by omega⟩, ?_⟩
    · show World.rowIs _ _ _ _ _
      refine ((rowIs_below HR.out (cb nq N)).set 8 _).congr (fun i hi => ?_)
      by_cases c : i = 8
      · subst c; rfl
      · rw [if_neg c]
        match i, hi, c with
        | 0, _, _ => rfl
        | 1, _, _ => rfl
        | 2, _, _ => rfl
        | 3, _, _ => rfl
        | 4, _, _ => rfl
        | 5, _, _ => rfl
        | 6, _, _ => rfl
        | 7, _, _ => rfl
        | i + 8, hi, c => exact absurd hi (by omega)
    · exact (hb.trans ((cb nq N).mono hb.size)).setCell (by simpa using hG) _
  case round =>
    clear c3 c6 c8 cb cf cw
    obtain ⟨k, hk, rfl, HG, HF, hbel⟩ := hrel
    by_cases hlt : k < N
    · have hkI : (k : Int) < N := by omega
      obtain ⟨f, hrow, hf⟩ := HF.out
      have HROW : Hid (wr.rowIs w.heap.size 3 N f ∧ ∀ j, j < k → f j = .int .i64 (-1)) := ⟨hrow, hf⟩
      have r0 := hrow.cell (i := k) (by omega)
      have r1 := hrow.frozen k
      have c8 : wr.cell? ⟨G, 8, none⟩ = some (.slice (some ⟨w.heap.size, 0, none⟩) N N) := HG.out.cell (i := 8) (by omega)
      clear hrow hf HF
      go_wp2
      go_roundw
      case rel =>
        refine ⟨k + 1, by omega, by go_num, HG.out.setOther (by simp; omega) _, ⟨_, HROW.out.1.set _ _, fun j hj => ?_⟩, hbel.setCell (by simp; omega) _⟩
        by_cases c : j = k
        · subst c; simp
        · simp [c]; exact HROW.out.2 j (by omega)
      case measure => simp [intOf]; omega
    · have e : k = N := by omega
      subst e
      have hlt' : decide ((k : Int) < k) = false := by simp
      go_wp2
      have HL0 : Hid (wr.rowIs w.heap.size 3 k (fun _ => .int .i64 (-1))) := by
        obtain ⟨f, hrow, hf⟩ := HF.out
        exact hrow.congr hf
      clear HF HR hlt hlt'
      obtain ⟨B, hB⟩ : ∃ B, w.heap.size = B := ⟨_, rfl⟩
      have hBr : B < wr.heap.size := by rw [← hB]; exact HL0.out.lt
      have hGB : G < B := by omega
      rw [hB] at HL0 HG ⊢
      clear hB
      go_loopw [4, 5] (fun sv sd wr => ∃ (m len : Nat) (L : Nat → Int) (q : Nat → Nat), m ≤ n + 1 ∧ sd = .int .i64 m ∧ Hid (P.Seeds x short L q len m) ∧ len ≤ k ∧ Hid (cnt L k = len ∧ ∀ s, k ≤ s → L s < 0) ∧ Hid (wr.rowIs G 115 9 (P.g9 ap az cp cz acc x short (.slice (some ⟨B, 0, none⟩) k k))) ∧ Hid (wr.rowIs B 3 k (fun i => .int .i64 (L i))) ∧ (∃ vl, vl = sv ∧ Hid (wr.ownsRow (B + 1) 3 1 vl len (singles (fun j => (q j : Nat)) len))) ∧ Below w0.heap.size w0 wr) (fun _ sd _ => n + 1 - (intOf sd).toNat)
      case atStart => exact ⟨0, 0, fun _ => -1, fun _ => 0, Nat.zero_le _, rfl, Prof.Seeds.begin P x short _ _ (fun _ => (by decide : (-1 : Int) < 0)), Nat.zero_le _, ⟨cnt_none (L := fun _ => (-1 : Int)) (fun _ => (by decide : (-1 : Int) < 0)) _, fun _ _ => (by decide : (-1 : Int) < 0)⟩, HG.out, HL0.out, ⟨_, rfl, World.ownsRow_nil _ _ _ _⟩, hbel⟩
      case round =>
        clear HG HL0 hbel hBr
        obtain ⟨m, len, L, q, hm, rfl, HS, hlen, HCN, HG, HT, ⟨vl, rfl, HO⟩, hbel⟩ := hrel
        have hBr : B < wr.heap.size := HT.out.lt
        have hGr : G < wr.heap.size := HG.out.lt
        by_cases hlt : m < n + 1
        · have hmI : (m : Int) ≤ n := by omega
          go_wp2_with fail
          refine (home_any P _ G ap az cp cz acc x short m 0 (Prof.g9_at HG.out) g0 (by omega) (by omega) (by omega) s0 s1 f0 (by omega)).mono ?_
          rintro e w3 ⟨rfl, hb3⟩
          have b3 := hbel.trans (hb3.mono hbel.size)
          have HG3 : Hid (w3.rowIs G 115 9 (P.g9 ap az cp cz acc x short (.slice (some ⟨B, 0, none⟩) k k))) := rowIs_below HG.out hb3
          have HT3 : Hid (w3.rowIs B 3 k (fun i => .int .i64 (L i))) := rowIs_below HT.out hb3
          have HO3 : Hid (w3.ownsRow (B + 1) 3 1 vl len (singles (fun j => (q j : Nat)) len)) := ownsRow_below HO.out hb3
          have s3 := hb3.size
          clear hb3 HG HT HO hbel
          cases hh : P.home x short m 0 with
          | false =>
            have HH : Hid (P.home x short m 0 = false) := hh
            clear hh
            go_wp2
            go_roundw
            case rel => exact ⟨m + 1, len, L, q, by omega, by go_num, HS.out.no HH.out, hlen, HCN.out, HG3.out, HT3.out, ⟨_, rfl, HO3.out⟩, b3⟩
            case measure => simp [intOf]; omega
          | true =>
            have HH : Hid (P.home x short m 0 = true) := hh
            have hst : ((stn m 0 : Nat) : Int) = m * 61 + 0 := stn_of (by omega) (by omega) (by omega)
            have hsk : stn m 0 < k := by omega
            have hnew := HS.out.new (m := m) (by omega)
            have HST : Hid (((stn m 0 : Nat) : Int) = m * 61 + 0) := hst
            have HA : Hid (∀ W : World, Calls Try.prog 84 #[.pointer (some ⟨G, 0, none⟩), .int .i64 m, .int .i64 0] W fun e w' => e = .returned (.int .i64 (stn m 0 : Nat)) ∧ w' = W) := fun W => at_any W _ m 0 (by omega) (by omega) (by omega) (by omega)
            have HS' : Hid (P.Seeds x short (upd L (stn m 0) 0) (upd q len (stn m 0)) (len + 1) (m + 1)) := HS.out.yes (by omega) HH.out
            have HC' : Hid (cnt (upd L (stn m 0) 0) k = len + 1 ∧ ∀ s, k ≤ s → upd L (stn m 0) 0 s < 0) := ⟨by rw [cnt_upd hnew (Int.le_refl 0) k hsk, HCN.out.1], fun s hs => by rw [upd_other L 0 (show s ≠ stn m 0 by omega)]; exact HCN.out.2 s hs⟩
            have hlen' : len + 1 ≤ k := by rw [← HC'.out.1]; exact cnt_le _ _
            clear hst hnew HS HCN
            generalize stn m 0 = t at *
            have c8 : w3.cell? ⟨G, 8, none⟩ = some (.slice (some ⟨B, 0, none⟩) k k) := HG3.out.cell (i := 8) (by omega)
            have t0 := HT3.out.cell (i := t) hsk
            have t1 := HT3.out.frozen t
            have hS0 : (fun y : World => y.cell? ⟨G, 8, none⟩ = some (.slice (some ⟨B, 0, none⟩) k k)) w3.drew := c8
            have eA : Hid (∀ args w, (callFunc 84 args).run Try.prog w = .ok (.enter 84 args) w) := enters_of Try.func84 (by kernel_rfl) rfl
            clear hh
            go_wp2_with fail
            refine wp_region_any (by kernel_rfl) (wpAnyU.any (S := (fun y : World => y.cell? ⟨G, 8, none⟩ = some (.slice (some ⟨B, 0, none⟩) k k))) (m := 8) _ _ _ _ ?_)
            change wpAnyU _ _ _ _ _ _ 9 _ _ w3.drew
            refine wpAnyU_take (i := 0) (v := .pointer (some ⟨G, 0, none⟩)) rfl (by kernel_rfl) (by kernel_rfl) (by kernel_rfl) (by kernel_rfl) (fun _ _ _ h => h) (Or.inl ⟨by rfl, fun y hy => ?_⟩) hS0 ?_
            · go_simp
            refine wpAnyU_take (i := 1) (v := .pointer (some ⟨G, 0, none⟩)) rfl (by kernel_rfl) (by kernel_rfl) (by kernel_rfl) (by kernel_rfl) (fun _ _ _ h => h) (Or.inl ⟨by rfl, fun y hy => ?_⟩) hS0 ?_
            · go_simp
            refine wpAnyU_take (i := 2) (v := .pointer (some ⟨G, 8, none⟩)) rfl (by kernel_rfl) (by kernel_rfl) (by kernel_rfl) (by kernel_rfl) (fun _ _ _ h => h) (Or.inl ⟨by rfl, fun y hy => ?_⟩) hS0 ?_
            · go_simp
            refine wpAnyU_take (i := 3) (v := .slice (some ⟨B, 0, none⟩) k k) rfl (by kernel_rfl) (by kernel_rfl) (by kernel_rfl) (by kernel_rfl) (fun _ _ _ h => h) (Or.inl ⟨by rfl, fun y hy => ?_⟩) hS0 ?_
            · go_simp
            refine wpAnyU_take (i := 4) (v := .pointer (some ⟨G, 0, none⟩)) rfl (by kernel_rfl) (by kernel_rfl) (by kernel_rfl) (by kernel_rfl) (fun _ _ _ h => h) (Or.inl ⟨by rfl, fun y hy => ?_⟩) hS0 ?_
            · go_simp
            refine wpAnyU_take (i := 5) (v := .int .i64 m) rfl (by kernel_rfl) (by kernel_rfl) (by kernel_rfl) (by kernel_rfl) (fun _ _ _ h => h) (Or.inl ⟨by rfl, fun y hy => ?_⟩) hS0 ?_
            · go_simp
            refine wpAnyU_one (i := 6) rfl (by kernel_rfl) (fun K hK => ?_)
            refine step_call3 rfl 84 (.tmp 55) (.tmp 56) (.const (.int .i64 0)) _ rfl (.pointer (some ⟨G, 0, none⟩)) (.int .i64 m) (.int .i64 0) (by simp [Act.eval, Act.put]) (by simp [Act.eval, Act.put]) (by simp [Act.eval]) eA.out (HA.out _) ?_
            rintro e w8 ⟨rfl, rfl⟩
            refine ⟨_, rfl, hK _ _ (Or.inr hS0) ?_⟩
            clear hK K
            refine wpAnyU_take (i := 7) (v := .pointer (some ⟨B, t, none⟩)) rfl (by kernel_rfl) (by kernel_rfl) (by kernel_rfl) (by kernel_rfl) (fun _ _ _ h => h) (Or.inl ⟨by rfl, fun y hy => ?_⟩) hS0 ?_
            · go_simp
            refine wpAnyU_one (i := 8) rfl (by kernel_rfl) (fun K hK => ?_)
            go_simp
            refine hK _ _ (Or.inl rfl) ?_
            clear hK K
            refine wpAnyU_done (by kernel_rfl) ?_ _
            obtain ⟨W4, hW4⟩ : ∃ W4, w3.setCell ⟨B, t, none⟩ (.int .i64 0) = W4 := ⟨_, rfl⟩
            have HG4 : Hid (W4.rowIs G 115 9 (P.g9 ap az cp cz acc x short (.slice (some ⟨B, 0, none⟩) k k))) := by show World.rowIs _ _ _ _ _; rw [← hW4]; exact HG3.out.setOther (by simp; omega) _
            have HT4 : Hid (W4.rowIs B 3 k (fun i => .int .i64 (upd L t 0 i))) := by show World.rowIs _ _ _ _ _; rw [← hW4]; exact table_set HT3.out t 0
            have HO4 : Hid (W4.ownsRow (B + 1) 3 1 vl len (singles (fun j => (q j : Nat)) len)) := by show World.ownsRow _ _ _ _ _ _ _; rw [← hW4]; exact owned_other HO3.out (by simp) _
            have b4 : Below w0.heap.size w0 W4 := by rw [← hW4]; exact b3.setCell (by simp; omega) _
            have s4 : B < W4.heap.size := HT4.out.lt
            clear HG3 HT3 HO3 b3 t0 t1 c8 hS0
            go_wp2_with fail
            clear hW4
            refine (HA.out _).mono ?_
            rintro e w9 ⟨rfl, rfl⟩
            go_wp2_with (first | (at_builtin; refine wpList_append_own _ rfl _ _ 27 rfl (B + 1) 3 i0 (.int .i64 0) 1 8 Try.underlying27 hi hz0 hz1 hz2 rfl (by decide) _ _ _ rfl (World.ownsRow.alloc (w := W4.drew) HO4.out _) ⟨W4.heap.size, 0, none⟩ 1 1 [.int .i64 t] rfl rfl ?c1 ?c2 ?c3 ?c4 ?c5 ?_))
            case c1 =>
              intro j u hj
              match j, hj with
              | 0, hj => simp at hj; subst hj; simp [Addr.add]
            case c2 => intro u hu; simp at hu; subst hu; rfl
            case c3 => unfold maxLen; omega
            case c4 => omega
            case c5 => simp; omega
            intro v9 w9 hown9 hgrow9 _
            have bq : Below (B + 1) (W4.drew.alloc (.cells #[.int .i64 t] 3)) w9 := (Below.refl _ _).grown hgrow9 (by simp; omega) (ownsRow_block HO4.out)
            have b9 : Below w0.heap.size w0 w9 := (b4.drew.alloc (by simp; omega) _).trans (bq.mono (by omega))
            have HG9 : Hid (w9.rowIs G 115 9 (P.g9 ap az cp cz acc x short (.slice (some ⟨B, 0, none⟩) k k))) := (World.rowIs.alloc (w := W4.drew) HG4.out _).of_block (bq.block G (by omega))
            have HT9 : Hid (w9.rowIs B 3 k (fun i => .int .i64 (upd L t 0 i))) := (World.rowIs.alloc (w := W4.drew) HT4.out _).of_block (bq.block B (by omega))
            have HO9 : Hid (w9.ownsRow (B + 1) 3 1 v9 (len + 1) (singles (fun j => (upd q len t j : Nat)) (len + 1))) := by show World.ownsRow _ _ _ _ _ _ _; rw [singles_upd]; exact hown9
            clear hown9 hgrow9 bq HG4 HT4 HO4 b4
            go_wp2
            go_roundw
            case rel => exact ⟨m + 1, len + 1, upd L t 0, upd q len t, by omega, by go_num, HS'.out, hlen', HC'.out, HG9.out, HT9.out, ⟨_, rfl, HO9.out⟩, b9⟩
            case measure => simp [intOf]; omega
        · have e : m = n + 1 := by omega
          have HBF : Hid (Bfs (P.way acc x) (P.homeN x short) L q len 0) := HS.out.bfs (by omega)
          have HLJ : Hid (∀ j, j < len → L (q j) ≤ (j : Int)) := fun j hj => by rw [HS.out.set j hj]; omega
          clear HS
          subst e
          go_wp2
          go_loopw [4, 6] (fun sv si wr => ∃ (i len : Nat) (L : Nat → Int) (q : Nat → Nat), i ≤ len ∧ si = .int .i64 i ∧ Hid (Bfs (P.way acc x) (P.homeN x short) L q len i) ∧ len ≤ k ∧ Hid (∀ j, j < len → L (q j) ≤ (j : Int)) ∧ Hid (cnt L k = len ∧ ∀ s, k ≤ s → L s < 0) ∧ Hid (wr.rowIs G 115 9 (P.g9 ap az cp cz acc x short (.slice (some ⟨B, 0, none⟩) k k))) ∧ Hid (wr.rowIs B 3 k (fun i => .int .i64 (L i))) ∧ (∃ vl, vl = sv ∧ Hid (wr.ownsRow (B + 1) 3 1 vl len (singles (fun j => (q j : Nat)) len))) ∧ Below w0.heap.size w0 wr) (fun _ si _ => k - (intOf si).toNat)
          case atStart => exact ⟨0, len, L, q, Nat.zero_le _, rfl, HBF.out, hlen, HLJ.out, HCN.out, HG.out, HT.out, ⟨_, rfl, HO.out⟩, hbel⟩
          case round =>
            clear HBF hlen HLJ HCN HG HT HO hbel hBr hGr
            obtain ⟨i, len, L, q, hil, rfl, HBF, hlen, HLJ, HCN, HG, HT, ⟨vl, rfl, HO⟩, hbel⟩ := hrel
            obtain ⟨av, cv, rfl, hcv, hcv2, hav⟩ := owned_shape HO.out
            by_cases hlt : i < len
            · obtain ⟨gb, cap', hv, hgb, hgl, hcell⟩ := owned_cell HO.out (by omega)
              cases hv
              have y0 := hcell i _ (singles_get (fun j => ((q j : Nat) : Int)) len i hlt)
              have hLq := HBF.out.set i hlt
              have hqk : q i < k := by
                rcases Nat.lt_or_ge (q i) k with c | c
                · exact c
                · have := HCN.out.2 _ c; omega
              obtain ⟨D, W, hD, hW, hDW, hDn⟩ : ∃ D W : Int, 0 ≤ D ∧ (0 ≤ W ∧ W ≤ 60) ∧ ((q i : Nat) : Int) = D * 61 + W ∧ D ≤ n := ⟨(q i : Int) / 61, (q i : Int) % 61, by omega, by omega, by omega, by omega⟩
              have HQ : Hid (q i = stn D W) := by show _ = _; have := stn_of hD hW.1 hW.2; omega
              have hq1 : ((q i : Nat) : Int).tmod 61 = W := by rw [Int.tmod_eq_emod_of_nonneg (by omega)]; omega
              have hq2 : ((q i : Nat) : Int).tdiv 61 = D := by rw [Int.tdiv_eq_ediv_of_nonneg (by omega)]; omega
              have HDW : Hid (((q i : Nat) : Int) = D * 61 + W) := hDW
              have HRT : Hid (∀ y, 1 ≤ P.rate y) := fun y => by have := (HOK.out.rate y).1; omega
              clear hcell hav hDW
              have hltI : (i : Int) < len := by omega
              obtain ⟨hW0, hW1⟩ := hW
              by_cases hdn : D - W < 0
              · have HSK : Hid (Bfs (P.way acc x) (P.homeN x short) L q len (i + 1)) := Prof.skip HRT.out (by omega) hD hW0 hW1 HBF.out hlt HQ.out (Or.inl hdn)
                go_wp2_with fail
                refine wp_region_quiet_below (by kernel_rfl) (by kernel_rfl) ?_
                repeat (go_big_quiet_step (fail))
                refine wpQuiet_nil ?_
                intro _ hw'
                obtain ⟨⟨dq, osq⟩, hw''⟩ := hw'
                subst hw''
                have hq := below_regrown wr dq osq
                have HG2 : Hid ((Sort.grow (redrawn wr dq) osq).rowIs G 115 9 (P.g9 ap az cp cz acc x short (.slice (some ⟨B, 0, none⟩) k k))) := rowIs_below HG.out hq
                have HT2 : Hid ((Sort.grow (redrawn wr dq) osq).rowIs B 3 k (fun i => .int .i64 (L i))) := rowIs_below HT.out hq
                have HO2 : Hid ((Sort.grow (redrawn wr dq) osq).ownsRow (B + 1) 3 1 (.slice (some ⟨gb, 0, none⟩) len cv) len (singles (fun j => (q j : Nat)) len)) := ownsRow_below HO.out hq
                have b2 := hbel.trans (hq.mono hbel.size)
                generalize Sort.grow (redrawn wr dq) osq = W2 at *
                go_wp2
                go_roundw
                case rel => exact ⟨i + 1, len, L, q, by omega, by go_num, HSK.out, hlen, HLJ.out, HCN.out, HG2.out, HT2.out, ⟨_, rfl, HO2.out⟩, b2⟩
                case measure => simp [intOf]; omega
              · have hdn' : decide (D - W < 0) = false := by simpa using hdn
                have HLW : Hid (P.Lies wr (.agg #[.slice ap P.np cp, .slice az P.nz cz, .int .i64 P.train, .int .i64 P.fin, .int .i64 P.delay])) := HL.out.below hbel
                obtain ⟨⟨e0, e1, e2, e3, e4⟩, e5, e6, e7⟩ := Prof.g9_at HG.out
                have cM : ∀ dd os, Calls Try.prog 87 #[.agg #[.slice ap P.np cp, .slice az P.nz cz, .int .i64 P.train, .int .i64 P.fin, .int .i64 P.delay], .int .i64 (x + (D - W)), .int .i64 W] (Sort.grow (redrawn wr dd) os) fun e w'' => e = .returned (.bool (P.may (x + (D - W)) W)) ∧ ∃ p : Regrown, w'' = Sort.grow (redrawn wr p.d) p.os := fun dd os => Calls.regrown_of (l3may_any P _ _ _ _ (HLW.out.below (below_regrown wr dd os)) HOK.out (by omega) (by omega) hW0 (by omega))
                have z0 := cell_regrown e0
                have z1 := cell_regrown e1
                have z2 := cell_regrown e2
                have z3 := cell_regrown e3
                have z4 := cell_regrown e4
                have z6 := cell_regrown e6
                have HSK : Hid (P.may (x + (D - W)) W = false → Bfs (P.way acc x) (P.homeN x short) L q len (i + 1)) := fun c => Prof.skip HRT.out (by omega) hD hW0 hW1 HBF.out hlt HQ.out (Or.inr c)
                clear e0 e1 e2 e3 e4 e5 e7
                go_wp2_with fail
                refine wp_region_quiet_below (by kernel_rfl) (by kernel_rfl) ?_
                repeat (go_big_quiet_step (first | (go_at_call 87; exact cM _ _)))
                refine wpQuiet_nil ?_
                intro _ hw'
                obtain ⟨⟨dq, osq⟩, hw''⟩ := hw'
                subst hw''
                have hq := below_regrown wr dq osq
                have HG2 : Hid ((Sort.grow (redrawn wr dq) osq).rowIs G 115 9 (P.g9 ap az cp cz acc x short (.slice (some ⟨B, 0, none⟩) k k))) := rowIs_below HG.out hq
                have HT2 : Hid ((Sort.grow (redrawn wr dq) osq).rowIs B 3 k (fun i => .int .i64 (L i))) := rowIs_below HT.out hq
                have HO2 : Hid ((Sort.grow (redrawn wr dq) osq).ownsRow (B + 1) 3 1 (.slice (some ⟨gb, 0, none⟩) len cv) len (singles (fun j => (q j : Nat)) len)) := ownsRow_below HO.out hq
                have b2 := hbel.trans (hq.mono hbel.size)
                clear z0 z1 z2 z3 z4 z6 e6 y0 cM
                generalize Sort.grow (redrawn wr dq) osq = W2 at *
                cases hm : P.may (x + (D - W)) W with
                | false =>
                  have HSK' : Hid (Bfs (P.way acc x) (P.homeN x short) L q len (i + 1)) := HSK.out hm
                  clear hm
                  go_wp2
                  refine ⟨?_, ?measure⟩
                  (repeat apply Exists.intro)
                  refine ⟨?rel, by skip; rfl⟩
                  case rel => exact ⟨i + 1, len, L, q, by omega, by go_num, HSK'.out, hlen, HLJ.out, HCN.out, HG2.out, HT2.out, ⟨_, rfl, HO2.out⟩, b2⟩
                  case measure => simp [intOf]; omega
                | true =>
                  have HM : Hid (P.may (x + (D - W)) W = true) := hm
                  clear hm HSK
                  go_wp2
                  go_loopw [4, 9] (fun sv si wr => ∃ (m len : Nat) (L : Nat → Int) (q : Nat → Nat), m ≤ 61 ∧ si = .int .i64 m ∧ Hid (P.Turn acc x short L q len i D W m) ∧ len ≤ k ∧ Hid (∀ j, j < len → L (q j) ≤ (j : Int)) ∧ Hid (cnt L k = len ∧ ∀ s, k ≤ s → L s < 0) ∧ Hid (wr.rowIs G 115 9 (P.g9 ap az cp cz acc x short (.slice (some ⟨B, 0, none⟩) k k))) ∧ Hid (wr.rowIs B 3 k (fun i => .int .i64 (L i))) ∧ (∃ vl, vl = sv ∧ Hid (wr.ownsRow (B + 1) 3 1 vl len (singles (fun j => (q j : Nat)) len))) ∧ Below w0.heap.size w0 wr) (fun _ si _ => 61 - (intOf si).toNat)
                  case atStart => exact ⟨0, len, L, q, by omega, rfl, Prof.Turn.begin HBF.out hlt HQ.out, hlen, HLJ.out, HCN.out, HG2.out, HT2.out, ⟨_, rfl, HO2.out⟩, b2⟩
                  case round =>
                    clear HBF HCN HLJ HG2 HT2 HO2 b2 hq HLW HG HT HO hbel hlen HQ HDW hq1 hq2 hLq hqk
                    obtain ⟨m, len2, L2, q2, hm, rfl, HTN, hlen2, HLJ2, HCN2, HG4, HT4, ⟨vl2, rfl, HO4⟩, hbel4⟩ := hrel
                    obtain ⟨av2, cv2, rfl, hcv3, hcv4, hav2⟩ := owned_shape HO4.out
                    have hlt2 := HTN.out.lt
                    obtain ⟨gb2, cap2, hv2, hgb2, hgl2, hcell2⟩ := owned_cell HO4.out (by omega)
                    cases hv2
                    have y4 := hcell2 i _ (singles_get (fun j => ((q2 j : Nat) : Int)) len2 i hlt2)
                    have hLq2 := HTN.out.bfs.set i hlt2
                    have hqk2 : q2 i < k := by
                      rcases Nat.lt_or_ge (q2 i) k with c | c
                      · exact c
                      · have := HCN2.out.2 _ c; omega
                    clear hcell2 hav2
                    by_cases hm2 : m < 61
                    · have hst : ((stn (D - W) m : Nat) : Int) = (D - W) * 61 + m := stn_of hdn (by omega) (by omega)
                      obtain ⟨t, hT⟩ : ∃ t, stn (D - W) m = t := ⟨_, rfl⟩
                      have HTt : Hid (stn (D - W) m = t) := hT
                      have hsk : t < k := by omega
                      have HA : Hid (∀ Wd : World, Calls Try.prog 84 #[.pointer (some ⟨G, 0, none⟩), .int .i64 (D - W), .int .i64 m] Wd fun e w' => e = .returned (.int .i64 (t : Nat)) ∧ w' = Wd) := fun Wd => by
                        have := at_any Wd (.pointer (some ⟨G, 0, none⟩)) (D - W) m hdn (by omega) (by omega) (by omega)
                        rw [hT] at this
                        exact this
                      have HLK : Hid (L2 (q2 i) ≤ 1000000) := by have := HLJ2.out i hlt2; show _ ≤ _; omega
                      have hmI : (m : Int) ≤ 60 := by omega
                      clear hT hst
                      go_wp2_with fail
                      refine (HA.out _).mono ?_
                      rintro e w9 ⟨rfl, rfl⟩
                      obtain ⟨W5, hW5⟩ : ∃ W5, w9 = W5 := ⟨_, rfl⟩
                      have HG5 : Hid (W5.rowIs G 115 9 (P.g9 ap az cp cz acc x short (.slice (some ⟨B, 0, none⟩) k k))) := by show World.rowIs _ _ _ _ _; rw [← hW5]; exact HG4.out
                      have HT5 : Hid (W5.rowIs B 3 k (fun i => .int .i64 (L2 i))) := by show World.rowIs _ _ _ _ _; rw [← hW5]; exact HT4.out
                      have HO5 : Hid (W5.ownsRow (B + 1) 3 1 (.slice (some ⟨gb2, 0, none⟩) len2 cv2) len2 (singles (fun j => (q2 j : Nat)) len2)) := by show World.ownsRow _ _ _ _ _ _ _; rw [← hW5]; exact HO4.out
                      have b5 : Below w0.heap.size w0 W5 := by rw [← hW5]; exact hbel4
                      have y5 : W5.cell? ⟨gb2, i, none⟩ = some (.int .i64 ((q2 i : Nat) : Int)) := by rw [← hW5]; exact y4
                      have hgl5 : gb2 < W5.heap.size := by rw [← hW5]; exact hgl2
                      rw [hW5]
                      clear HG4 HT4 HO4 hbel4 y4 hW5
                      have HLW : Hid (P.Lies W5 (.agg #[.slice ap P.np cp, .slice az P.nz cz, .int .i64 P.train, .int .i64 P.fin, .int .i64 P.delay])) := HL.out.below b5
                      have c8' : W5.cell? ⟨G, 8, none⟩ = some (.slice (some ⟨B, 0, none⟩) k k) := HG5.out.cell (i := 8) (by omega)
                      have ct' := HT5.out.cell (i := t) hsk
                      by_cases hL : L2 t < 0
                      · by_cases hlo : less m (P.rate (x + (D - W))) ≤ W
                        · by_cases hhi : W ≤ high acc m
                          · have hgo : P.goes acc x (D - W) m W = true := Prof.goes_iff.2 ⟨⟨hlo, hhi⟩, HM.out⟩
                            have HTN' : Hid (P.Turn acc x short (upd L2 (stn (D - W) m) (L2 (q2 i) + 1)) (upd q2 len2 (stn (D - W) m)) (len2 + 1) i D W ((m : Int) + 1)) := HTN.out.yes hdn (by omega) (by omega) (by omega) (by rw [HTt.out]; exact hL) hgo
                            have HC' : Hid (cnt (upd L2 (stn (D - W) m) (L2 (q2 i) + 1)) k = len2 + 1 ∧ ∀ s, k ≤ s → upd L2 (stn (D - W) m) (L2 (q2 i) + 1) s < 0) := ⟨by rw [cnt_upd (by rw [HTt.out]; exact hL) (by omega) k (by rw [HTt.out]; exact hsk), HCN2.out.1], fun s hs => by rw [upd_other L2 _ (show s ≠ stn (D - W) m by rw [HTt.out]; omega)]; exact HCN2.out.2 s hs⟩
                            have hlen' : len2 + 1 ≤ k := by rw [← HC'.out.1]; exact cnt_le _ _
                            have HLJ' : Hid (∀ j, j < len2 + 1 → upd L2 (stn (D - W) m) (L2 (q2 i) + 1) (upd q2 len2 (stn (D - W) m) j) ≤ (j : Int)) := fun j hj => by
                              have h1 := HLJ2.out
                              have h2 := HTN.out.bfs.set
                              by_cases c : j = len2
                              · rw [c, upd_same, upd_same]; have := h1 i hlt2; omega
                              · rw [upd_other q2 _ c, upd_other L2 _ (fun e => by have := h2 j (by omega); rw [e, HTt.out] at this; omega)]; exact h1 j (by omega)
                            clear HTN HCN2 hgo
                            rw [HTt.out] at HTN' HC' HLJ'
                            go_wp2_with fail
                            refine (low_any P W5 G ap az cp cz acc x short (D - W) m (Prof.g9_at HG5.out) HLW.out HOK.out (by omega) (by omega) (by omega) (by omega) (by omega) (by omega)).mono ?_
                            rintro e w10 ⟨rfl, hb10⟩
                            have HG6 : Hid (w10.rowIs G 115 9 (P.g9 ap az cp cz acc x short (.slice (some ⟨B, 0, none⟩) k k))) := rowIs_below HG5.out hb10
                            have HT6 : Hid (w10.rowIs B 3 k (fun i => .int .i64 (L2 i))) := rowIs_below HT5.out hb10
                            have HO6 : Hid (w10.ownsRow (B + 1) 3 1 (.slice (some ⟨gb2, 0, none⟩) len2 cv2) len2 (singles (fun j => (q2 j : Nat)) len2)) := ownsRow_below HO5.out hb10
                            have b6 := b5.trans (hb10.mono b5.size)
                            have y6 : w10.cell? ⟨gb2, i, none⟩ = some (.int .i64 ((q2 i : Nat) : Int)) := (hb10.cell (p := ⟨gb2, i, none⟩) hgl5).trans y5
                            have hgl6 : gb2 < w10.heap.size := Nat.lt_of_lt_of_le hgl5 hb10.size
                            clear HG5 HT5 HO5 b5 y5 hb10 hgl5
                            clear c8' ct' HLW
                            go_wp2_with fail
                            refine (high_any P w10 G ap az cp cz acc x short m (Prof.g9_at HG6.out) (by omega) (by omega) (by omega) (by omega)).mono ?_
                            rintro e w11 ⟨rfl, hb11⟩
                            have HG7 : Hid (w11.rowIs G 115 9 (P.g9 ap az cp cz acc x short (.slice (some ⟨B, 0, none⟩) k k))) := rowIs_below HG6.out hb11
                            have HT7 : Hid (w11.rowIs B 3 k (fun i => .int .i64 (L2 i))) := rowIs_below HT6.out hb11
                            have HO7 : Hid (w11.ownsRow (B + 1) 3 1 (.slice (some ⟨gb2, 0, none⟩) len2 cv2) len2 (singles (fun j => (q2 j : Nat)) len2)) := ownsRow_below HO6.out hb11
                            have b7 := b6.trans (hb11.mono b6.size)
                            have y7 : w11.cell? ⟨gb2, i, none⟩ = some (.int .i64 ((q2 i : Nat) : Int)) := (hb11.cell (p := ⟨gb2, i, none⟩) hgl6).trans y6
                            have hgl7 : gb2 < w11.heap.size := Nat.lt_of_lt_of_le hgl6 hb11.size
                            clear HG6 HT6 HO6 b6 y6 hb11 hgl6
                            have c8 : w11.cell? ⟨G, 8, none⟩ = some (.slice (some ⟨B, 0, none⟩) k k) := HG7.out.cell (i := 8) (by omega)
                            have t0 := HT7.out.cell (i := t) hsk
                            have t1 := HT7.out.frozen t
                            have t2 := HT7.out.cell (i := q2 i) hqk2
                            have s7 : B < w11.heap.size := HT7.out.lt
                            have hLk := HLK.out
                            clear HLK
                            have hS0 : (fun y : World => y.cell? ⟨G, 8, none⟩ = some (.slice (some ⟨B, 0, none⟩) k k) ∧ y.cell? ⟨gb2, i, none⟩ = some (.int .i64 ((q2 i : Nat) : Int)) ∧ y.cell? ⟨B, q2 i, none⟩ = some (.int .i64 (L2 (q2 i)))) w11.drew := ⟨c8, y7, t2⟩
                            have hqI : ((q2 i : Nat) : Int) < (k : Int) := by omega
                            have htI : ((t : Nat) : Int) < (k : Int) := by omega
                            have hiI : ((i : Nat) : Int) < (len2 : Int) := by omega
                            clear c8 y7 t2
                            go_wp2_with fail
                            refine wp_region_any (by kernel_rfl) (wpAnyU.any (S := (fun y : World => y.cell? ⟨G, 8, none⟩ = some (.slice (some ⟨B, 0, none⟩) k k) ∧ y.cell? ⟨gb2, i, none⟩ = some (.int .i64 ((q2 i : Nat) : Int)) ∧ y.cell? ⟨B, q2 i, none⟩ = some (.int .i64 (L2 (q2 i))))) (m := 17) _ _ _ _ ?_)
                            change wpAnyU _ _ _ _ _ _ 18 _ _ w11.drew
                            refine wpAnyU_take (i := 0) (v := .pointer (some ⟨G, 0, none⟩)) rfl (by kernel_rfl) (by kernel_rfl) (by kernel_rfl) (by kernel_rfl) (fun _ _ _ h => h) (Or.inl ⟨by rfl, fun y hy => ?_⟩) hS0 ?_
                            · obtain ⟨k8, k7, kq⟩ := hy
                              go_simp
                            refine wpAnyU_take (i := 1) (v := .pointer (some ⟨G, 0, none⟩)) rfl (by kernel_rfl) (by kernel_rfl) (by kernel_rfl) (by kernel_rfl) (fun _ _ _ h => h) (Or.inl ⟨by rfl, fun y hy => ?_⟩) hS0 ?_
                            · obtain ⟨k8, k7, kq⟩ := hy
                              go_simp
                            refine wpAnyU_take (i := 2) (v := .pointer (some ⟨G, 8, none⟩)) rfl (by kernel_rfl) (by kernel_rfl) (by kernel_rfl) (by kernel_rfl) (fun _ _ _ h => h) (Or.inl ⟨by rfl, fun y hy => ?_⟩) hS0 ?_
                            · obtain ⟨k8, k7, kq⟩ := hy
                              go_simp
                            refine wpAnyU_take (i := 3) (v := .slice (some ⟨B, 0, none⟩) k k) rfl (by kernel_rfl) (by kernel_rfl) (by kernel_rfl) (by kernel_rfl) (fun _ _ _ h => h) (Or.inl ⟨by rfl, fun y hy => ?_⟩) hS0 ?_
                            · obtain ⟨k8, k7, kq⟩ := hy
                              go_simp
                            refine wpAnyU_take (i := 4) (v := .int .i64 (t : Nat)) rfl (by kernel_rfl) (by kernel_rfl) (by kernel_rfl) (by kernel_rfl) (fun _ _ _ h => h) (Or.inl ⟨by rfl, fun y hy => ?_⟩) hS0 ?_
                            · obtain ⟨k8, k7, kq⟩ := hy
                              go_simp
                            refine wpAnyU_take (i := 5) (v := .pointer (some ⟨G, 0, none⟩)) rfl (by kernel_rfl) (by kernel_rfl) (by kernel_rfl) (by kernel_rfl) (fun _ _ _ h => h) (Or.inl ⟨by rfl, fun y hy => ?_⟩) hS0 ?_
                            · obtain ⟨k8, k7, kq⟩ := hy
                              go_simp
                            refine wpAnyU_take (i := 6) (v := .pointer (some ⟨G, 0, none⟩)) rfl (by kernel_rfl) (by kernel_rfl) (by kernel_rfl) (by kernel_rfl) (fun _ _ _ h => h) (Or.inl ⟨by rfl, fun y hy => ?_⟩) hS0 ?_
                            · obtain ⟨k8, k7, kq⟩ := hy
                              go_simp
                            refine wpAnyU_take (i := 7) (v := .pointer (some ⟨G, 8, none⟩)) rfl (by kernel_rfl) (by kernel_rfl) (by kernel_rfl) (by kernel_rfl) (fun _ _ _ h => h) (Or.inl ⟨by rfl, fun y hy => ?_⟩) hS0 ?_
                            · obtain ⟨k8, k7, kq⟩ := hy
                              go_simp
                            refine wpAnyU_take (i := 8) (v := .slice (some ⟨B, 0, none⟩) k k) rfl (by kernel_rfl) (by kernel_rfl) (by kernel_rfl) (by kernel_rfl) (fun _ _ _ h => h) (Or.inl ⟨by rfl, fun y hy => ?_⟩) hS0 ?_
                            · obtain ⟨k8, k7, kq⟩ := hy
                              go_simp
                            refine wpAnyU_take (i := 9) (v := .slice (some ⟨gb2, 0, none⟩) len2 cv2) rfl (by kernel_rfl) (by kernel_rfl) (by kernel_rfl) (by kernel_rfl) (fun _ _ _ h => h) (Or.inl ⟨by rfl, fun y hy => ?_⟩) hS0 ?_
                            · obtain ⟨k8, k7, kq⟩ := hy
                              go_simp
                            refine wpAnyU_take (i := 10) (v := .int .i64 (i : Nat)) rfl (by kernel_rfl) (by kernel_rfl) (by kernel_rfl) (by kernel_rfl) (fun _ _ _ h => h) (Or.inl ⟨by rfl, fun y hy => ?_⟩) hS0 ?_
                            · obtain ⟨k8, k7, kq⟩ := hy
                              go_simp
                            refine wpAnyU_take (i := 11) (v := .pointer (some ⟨gb2, i, none⟩)) rfl (by kernel_rfl) (by kernel_rfl) (by kernel_rfl) (by kernel_rfl) (fun _ _ _ h => h) (Or.inl ⟨by rfl, fun y hy => ?_⟩) hS0 ?_
                            · obtain ⟨k8, k7, kq⟩ := hy
                              go_simp
                            refine wpAnyU_take (i := 12) (v := .int .i64 ((q2 i : Nat) : Int)) rfl (by kernel_rfl) (by kernel_rfl) (by kernel_rfl) (by kernel_rfl) (fun _ _ _ h => h) (Or.inl ⟨by rfl, fun y hy => ?_⟩) hS0 ?_
                            · obtain ⟨k8, k7, kq⟩ := hy
                              go_simp
                            refine wpAnyU_take (i := 13) (v := .pointer (some ⟨B, q2 i, none⟩)) rfl (by kernel_rfl) (by kernel_rfl) (by kernel_rfl) (by kernel_rfl) (fun _ _ _ h => h) (Or.inl ⟨by rfl, fun y hy => ?_⟩) hS0 ?_
                            · obtain ⟨k8, k7, kq⟩ := hy
                              go_simp
                            refine wpAnyU_take (i := 14) (v := .int .i64 (L2 (q2 i))) rfl (by kernel_rfl) (by kernel_rfl) (by kernel_rfl) (by kernel_rfl) (fun _ _ _ h => h) (Or.inl ⟨by rfl, fun y hy => ?_⟩) hS0 ?_
                            · obtain ⟨k8, k7, kq⟩ := hy
                              go_simp
                            refine wpAnyU_take (i := 15) (v := .int .i64 (L2 (q2 i) + 1)) rfl (by kernel_rfl) (by kernel_rfl) (by kernel_rfl) (by kernel_rfl) (fun _ _ _ h => h) (Or.inl ⟨by rfl, fun y hy => ?_⟩) hS0 ?_
                            · obtain ⟨k8, k7, kq⟩ := hy
                              go_simp
                              exact wrapIn (by omega) (by omega)
                            refine wpAnyU_take (i := 16) (v := .pointer (some ⟨B, t, none⟩)) rfl (by kernel_rfl) (by kernel_rfl) (by kernel_rfl) (by kernel_rfl) (fun _ _ _ h => h) (Or.inl ⟨by rfl, fun y hy => ?_⟩) hS0 ?_
                            · obtain ⟨k8, k7, kq⟩ := hy
                              go_simp
                            refine wpAnyU_one (i := 17) rfl (by kernel_rfl) (fun K hK => ?_)
                            go_simp
                            refine hK _ _ (Or.inl rfl) ?_
                            clear hK K hS0
                            refine wpAnyU_done (by kernel_rfl) ?_ _
                            obtain ⟨W8, hW8⟩ : ∃ W8, w11.setCell ⟨B, t, none⟩ (.int .i64 (L2 (q2 i) + 1)) = W8 := ⟨_, rfl⟩
                            have HG8 : Hid (W8.rowIs G 115 9 (P.g9 ap az cp cz acc x short (.slice (some ⟨B, 0, none⟩) k k))) := by show World.rowIs _ _ _ _ _; rw [← hW8]; exact HG7.out.setOther (by simp; omega) _
                            have HT8 : Hid (W8.rowIs B 3 k (fun j => .int .i64 (upd L2 t (L2 (q2 i) + 1) j))) := by show World.rowIs _ _ _ _ _; rw [← hW8]; exact table_set HT7.out t _
                            have HO8 : Hid (W8.ownsRow (B + 1) 3 1 (.slice (some ⟨gb2, 0, none⟩) len2 cv2) len2 (singles (fun j => (q2 j : Nat)) len2)) := by show World.ownsRow _ _ _ _ _ _ _; rw [← hW8]; exact owned_other HO7.out (by simp) _
                            have b8 : Below w0.heap.size w0 W8 := by rw [← hW8]; exact b7.setCell (by simp; omega) _
                            have s8 : B < W8.heap.size := HT8.out.lt
                            clear HG7 HT7 HO7 b7 t0 t1
                            go_wp2_with (first | (at_builtin; refine wpList_append_own _ rfl _ _ 27 rfl (B + 1) 3 i0 (.int .i64 0) 1 8 Try.underlying27 hi hz0 hz1 hz2 rfl (by decide) _ _ _ rfl (World.ownsRow.alloc (w := W8.drew) HO8.out _) ⟨W8.heap.size, 0, none⟩ 1 1 [.int .i64 t] rfl rfl ?c1 ?c2 ?c3 ?c4 ?c5 ?_))
                            case c1 =>
                              intro j u hj
                              match j, hj with
                              | 0, hj => simp at hj; subst hj; simp [Addr.add]
                            case c2 => intro u hu; simp at hu; subst hu; rfl
                            case c3 => unfold maxLen; omega
                            case c4 => omega
                            case c5 => simp; omega
                            intro v9 w12 hown9 hgrow9 _
                            have bq : Below (B + 1) (W8.drew.alloc (.cells #[.int .i64 t] 3)) w12 := (Below.refl _ _).grown hgrow9 (by simp; omega) (ownsRow_block HO8.out)
                            have b9 : Below w0.heap.size w0 w12 := (b8.drew.alloc (by simp; omega) _).trans (bq.mono (by omega))
                            have HG9 : Hid (w12.rowIs G 115 9 (P.g9 ap az cp cz acc x short (.slice (some ⟨B, 0, none⟩) k k))) := (World.rowIs.alloc (w := W8.drew) HG8.out _).of_block (bq.block G (by omega))
                            have HT9 : Hid (w12.rowIs B 3 k (fun j => .int .i64 (upd L2 t (L2 (q2 i) + 1) j))) := (World.rowIs.alloc (w := W8.drew) HT8.out _).of_block (bq.block B (by omega))
                            have HO9 : Hid (w12.ownsRow (B + 1) 3 1 v9 (len2 + 1) (singles (fun j => (upd q2 len2 t j : Nat)) (len2 + 1))) := by show World.ownsRow _ _ _ _ _ _ _; rw [singles_upd]; exact hown9
                            clear hown9 hgrow9 bq HG8 HT8 HO8 b8
                            go_wp2
                            refine ⟨?_, ?measure⟩
                            (repeat apply Exists.intro)
                            refine ⟨?rel, by skip; rfl⟩
                            case rel => exact ⟨m + 1, len2 + 1, upd L2 t (L2 (q2 i) + 1), upd q2 len2 t, by omega, by go_num, HTN'.out, hlen', HLJ'.out, HC'.out, HG9.out, HT9.out, ⟨_, rfl, HO9.out⟩, b9⟩
                            case measure => simp [intOf]; omega
                          · have hhi' : decide (W ≤ high acc m) = false := by simpa using hhi
                            have HTN' : Hid (P.Turn acc x short L2 q2 len2 i D W ((m : Int) + 1)) := HTN.out.no (Or.inr (by cases c : P.goes acc x (D - W) m W with | false => rfl | true => exact absurd (Prof.goes_iff.1 c).1.2 hhi))
                            clear HTN
                            go_wp2_with fail
                            refine (low_any P W5 G ap az cp cz acc x short (D - W) m (Prof.g9_at HG5.out) HLW.out HOK.out (by omega) (by omega) (by omega) (by omega) (by omega) (by omega)).mono ?_
                            rintro e w10 ⟨rfl, hb10⟩
                            have HG6 : Hid (w10.rowIs G 115 9 (P.g9 ap az cp cz acc x short (.slice (some ⟨B, 0, none⟩) k k))) := rowIs_below HG5.out hb10
                            have HT6 : Hid (w10.rowIs B 3 k (fun i => .int .i64 (L2 i))) := rowIs_below HT5.out hb10
                            have HO6 : Hid (w10.ownsRow (B + 1) 3 1 (.slice (some ⟨gb2, 0, none⟩) len2 cv2) len2 (singles (fun j => (q2 j : Nat)) len2)) := ownsRow_below HO5.out hb10
                            have b6 := b5.trans (hb10.mono b5.size)
                            have y6 : w10.cell? ⟨gb2, i, none⟩ = some (.int .i64 ((q2 i : Nat) : Int)) := (hb10.cell (p := ⟨gb2, i, none⟩) hgl5).trans y5
                            have hgl6 : gb2 < w10.heap.size := Nat.lt_of_lt_of_le hgl5 hb10.size
                            clear HG5 HT5 HO5 b5 y5 hb10 hgl5
                            clear c8' ct' HLW
                            go_wp2_with fail
                            refine (high_any P w10 G ap az cp cz acc x short m (Prof.g9_at HG6.out) (by omega) (by omega) (by omega) (by omega)).mono ?_
                            rintro e w11 ⟨rfl, hb11⟩
                            have HG7 : Hid (w11.rowIs G 115 9 (P.g9 ap az cp cz acc x short (.slice (some ⟨B, 0, none⟩) k k))) := rowIs_below HG6.out hb11
                            have HT7 : Hid (w11.rowIs B 3 k (fun i => .int .i64 (L2 i))) := rowIs_below HT6.out hb11
                            have HO7 : Hid (w11.ownsRow (B + 1) 3 1 (.slice (some ⟨gb2, 0, none⟩) len2 cv2) len2 (singles (fun j => (q2 j : Nat)) len2)) := ownsRow_below HO6.out hb11
                            have b7 := b6.trans (hb11.mono b6.size)
                            have y7 : w11.cell? ⟨gb2, i, none⟩ = some (.int .i64 ((q2 i : Nat) : Int)) := (hb11.cell (p := ⟨gb2, i, none⟩) hgl6).trans y6
                            have hgl7 : gb2 < w11.heap.size := Nat.lt_of_lt_of_le hgl6 hb11.size
                            clear HG6 HT6 HO6 b6 y6 hb11 hgl6
                            go_wp2
                            refine ⟨?_, ?measure⟩
                            (repeat apply Exists.intro)
                            refine ⟨?rel, by skip; rfl⟩
                            case rel => exact ⟨m + 1, len2, L2, q2, by omega, by go_num, HTN'.out, hlen2, HLJ2.out, HCN2.out, HG7.out, HT7.out, ⟨_, rfl, HO7.out⟩, b7⟩
                            case measure => simp [intOf]; omega
                        · have hlo' : decide (less m (P.rate (x + (D - W))) ≤ W) = false := by simpa using hlo
                          have HTN' : Hid (P.Turn acc x short L2 q2 len2 i D W ((m : Int) + 1)) := HTN.out.no (Or.inr (by cases c : P.goes acc x (D - W) m W with | false => rfl | true => exact absurd (Prof.goes_iff.1 c).1.1 hlo))
                          clear HTN
                          go_wp2_with fail
                          refine (low_any P W5 G ap az cp cz acc x short (D - W) m (Prof.g9_at HG5.out) HLW.out HOK.out (by omega) (by omega) (by omega) (by omega) (by omega) (by omega)).mono ?_
                          rintro e w10 ⟨rfl, hb10⟩
                          have HG6 : Hid (w10.rowIs G 115 9 (P.g9 ap az cp cz acc x short (.slice (some ⟨B, 0, none⟩) k k))) := rowIs_below HG5.out hb10
                          have HT6 : Hid (w10.rowIs B 3 k (fun i => .int .i64 (L2 i))) := rowIs_below HT5.out hb10
                          have HO6 : Hid (w10.ownsRow (B + 1) 3 1 (.slice (some ⟨gb2, 0, none⟩) len2 cv2) len2 (singles (fun j => (q2 j : Nat)) len2)) := ownsRow_below HO5.out hb10
                          have b6 := b5.trans (hb10.mono b5.size)
                          have y6 : w10.cell? ⟨gb2, i, none⟩ = some (.int .i64 ((q2 i : Nat) : Int)) := (hb10.cell (p := ⟨gb2, i, none⟩) hgl5).trans y5
                          have hgl6 : gb2 < w10.heap.size := Nat.lt_of_lt_of_le hgl5 hb10.size
                          clear HG5 HT5 HO5 b5 y5 hb10 hgl5
                          clear c8' ct' HLW
                          go_wp2
                          refine ⟨?_, ?measure⟩
                          (repeat apply Exists.intro)
                          refine ⟨?rel, by skip; rfl⟩
                          case rel => exact ⟨m + 1, len2, L2, q2, by omega, by go_num, HTN'.out, hlen2, HLJ2.out, HCN2.out, HG6.out, HT6.out, ⟨_, rfl, HO6.out⟩, b6⟩
                          case measure => simp [intOf]; omega
                      · have hL' : decide (L2 t < 0) = false := by simpa using hL
                        have HTN' : Hid (P.Turn acc x short L2 q2 len2 i D W ((m : Int) + 1)) := HTN.out.no (Or.inl (by rw [HTt.out]; omega))
                        clear HTN
                        go_wp2
                        refine ⟨?_, ?measure⟩
                        (repeat apply Exists.intro)
                        refine ⟨?rel, by skip; rfl⟩
                        case rel => exact ⟨m + 1, len2, L2, q2, by omega, by go_num, HTN'.out, hlen2, HLJ2.out, HCN2.out, HG5.out, HT5.out, ⟨_, rfl, HO5.out⟩, b5⟩
                        case measure => simp [intOf]; omega
                    · have em : m = 61 := by omega
                      subst em
                      have HNX : Hid (Bfs (P.way acc x) (P.homeN x short) L2 q2 len2 (i + 1)) := Prof.Turn.next HRT.out (by omega) hD hW0 hW1 HTN.out
                      clear HTN
                      go_wp2
                      refine ⟨?_, ?measure⟩
                      (repeat apply Exists.intro)
                      refine ⟨?rel, by skip; rfl⟩
                      case rel => exact ⟨i + 1, len2, L2, q2, by omega, by go_num, HNX.out, hlen2, HLJ2.out, HCN2.out, HG4.out, HT4.out, ⟨_, rfl, HO4.out⟩, hbel4⟩
                      case measure => simp [intOf]; omega
            · have e : i = len := by omega
              subst e
              have hlt' : decide ((i : Int) < i) = false := by simp
              go_wp2
              exact bodyPost_end (results_none (by kernel_rfl) _ _ _) rfl ⟨rfl, B, k, L, by omega, by omega, HG.out, HT.out, HBF.out.fewest, HCN.out.2, hbel⟩

end Go.Proofs.Yteodefmpkljedaa
