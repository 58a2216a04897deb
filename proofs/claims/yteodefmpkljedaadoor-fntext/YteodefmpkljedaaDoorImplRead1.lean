/-
  The program's reader: a digit, a number.
-/
import Derived.Test.YteodefmpkljedaaDoorProg
import Derived.Test.YteodefmpkljedaaDoorTextSteps
import Derived.Test.YteodefmpkljedaaDoorGrow
import Derived.WalkLawsBesides
namespace Go.Proofs.YteodefmpkljedaaDoor
open Go.RowKit Go.Sort Go.Shelf
set_option linter.unusedVariables false
set_option linter.unusedSimpArgs false

/-- The reader's two cells. -/
def rd2 (t : List UInt8) (i : Int) (k : Nat) : Value := if k = 0 then .string ⟨t.toArray⟩ else .int .i64 i
def ReadAt (w : World) (B : Nat) (t : List UInt8) (i : Int) : Prop := w.rowIs B 104 2 (rd2 t i)
theorem ReadAt.c0 {w : World} {B : Nat} {t : List UInt8} {i : Int} (h : ReadAt w B t i) : w.cell? ⟨B, 0, none⟩ = some (.string ⟨t.toArray⟩) := h.cell (i := 0) (by omega)
theorem ReadAt.c1 {w : World} {B : Nat} {t : List UInt8} {i : Int} (h : ReadAt w B t i) : w.cell? ⟨B, 1, none⟩ = some (.int .i64 i) := h.cell (i := 1) (by omega)
theorem ReadAt.at_ {w : World} {B : Nat} {t : List UInt8} {i : Int} (h : ReadAt w B t i) (n : Nat) (j : Int) : ReadAt ((w.drewN n).setCell ⟨B, 1, none⟩ (.int .i64 j)) B t j := by
  have h1 : (w.drewN n).rowIs B 104 2 (rd2 t i) := h.of_block rfl
  refine (h1.set 1 (.int .i64 j)).congr fun k hk => ?_
  match k, hk with
  | 0, _ => rfl
  | 1, _ => rfl
/-- What the reader leaves with. -/
def left_ (i : Int) : List PanicEntry := [{ v := .iface 101 (.agg #[.int .i64 i]), recovered := false }]
theorem idx_st (t : List UInt8) (p : Nat) (c : UInt8) (w : World) (h : t[p]? = some c) : (Instr.index 9 (.string ⟨t.toArray⟩) (.int .i64 p)).run Tryd.prog w = .ok (.int .u8 (c.toNat : Int)) w := by
  have hp : p < t.length := by
    rcases Nat.lt_or_ge p t.length with q | q
    · exact q
    · rw [List.getElem?_eq_none q] at h; cases h
  have hs : (⟨t.toArray⟩ : ByteArray).size = t.length := by show t.toArray.size = _; simp
  rw [run_index_string w 9 _ _ _ Tryd.underlying9, dif_pos ⟨by omega, by omega⟩]
  have e : (⟨t.toArray⟩ : ByteArray)[((p : Int)).toNat]'(by omega) = c := by
    rw [List.getElem?_eq_getElem hp] at h
    simpa [ByteArray.getElem_eq_getElem_data] using Option.some.inj h
  rw [e]
/-- A digit comes next. -/
def AtDig (t : List UInt8) (i : Nat) : Prop := ∃ c, t[i]? = some c ∧ 48 ≤ c.toNat ∧ c.toNat ≤ 57

set_option maxHeartbeats 1000000 in
theorem isAt_yes (t : List UInt8) (B i : Nat) (c : UInt8) (w : World) (h : ReadAt w B t i) (hc : t[i]? = some c) (h1 : 48 ≤ c.toNat) (h2 : c.toNat ≤ 57) (ht : t.length ≤ 3000) :
    Calls Tryd.prog 66 #[.pointer (some ⟨B, 0, none⟩)] w fun e w' => e = .returned (.bool true) ∧ ∃ n, w' = w.drewN n := by
  have c0 := h.c0
  have c1 := h.c1
  have hlt : (i : Int) < (t.length : Int) := by
    rcases Nat.lt_or_ge i t.length with q | q
    · omega
    · rw [List.getElem?_eq_none q] at hc; cases hc
  obtain ⟨C, hD⟩ : ∃ C : Int, (c.toNat : Int) = C := ⟨_, rfl⟩
  have x1 : ∀ w : World, (Instr.index 9 (.string ⟨t.toArray⟩) (.int .i64 i)).run Tryd.prog w = .ok (.int .u8 C) w := fun w => by rw [← hD]; exact idx_st t i c w hc
  have g1 : (48 : Int) ≤ C := by omega
  have g2 : C ≤ 57 := by omega
  clear h hc hD h1 h2
  go_enter Tryd.func66, Tryd.ntmps66
  go_wp2_with fail
  go_quiet (fail)
  go_wp2
  go_ret
  exact ⟨rfl, _, rfl⟩

set_option maxHeartbeats 2000000 in
theorem isAt_no (t : List UInt8) (B i : Nat) (w : World) (h : ReadAt w B t i) (hi : i ≤ t.length) (hn : ¬ AtDig t i) (ht : t.length ≤ 3000) :
    Calls Tryd.prog 66 #[.pointer (some ⟨B, 0, none⟩)] w fun e w' => e = .returned (.bool false) ∧ ∃ n, w' = w.drewN n := by
  have c0 := h.c0
  have c1 := h.c1
  clear h
  by_cases hend : i = t.length
  · have hl : decide ((i : Int) < (t.length : Int)) = false := by simp; omega
    have hl' : decide (i < t.length) = false := by simp; omega
    clear hn hend hi
    go_enter Tryd.func66, Tryd.ntmps66
    go_wp2_with fail
    go_quiet (fail)
    go_wp2
    go_ret
    exact ⟨rfl, _, rfl⟩
  · have hlt : (i : Int) < (t.length : Int) := by omega
    have hlt' : i < t.length := by omega
    obtain ⟨c, hc⟩ : ∃ c, t[i]? = some c := ⟨t[i], List.getElem?_eq_getElem hlt'⟩
    obtain ⟨C, hD⟩ : ∃ C : Int, (c.toNat : Int) = C := ⟨_, rfl⟩
    have x1 : ∀ w : World, (Instr.index 9 (.string ⟨t.toArray⟩) (.int .i64 i)).run Tryd.prog w = .ok (.int .u8 C) w := fun w => by rw [← hD]; exact idx_st t i c w hc
    have hcc : ¬ (48 ≤ c.toNat ∧ c.toNat ≤ 57) := fun q => hn ⟨c, hc, q⟩
    by_cases h48 : 48 ≤ c.toNat
    · have g1 : (48 : Int) ≤ C := by omega
      have g2 : decide (C ≤ 57) = false := by simp; omega
      clear hn hc hD hcc h48 hend hi
      go_enter Tryd.func66, Tryd.ntmps66
      go_wp2_with fail
      go_quiet (fail)
      go_wp2
      go_ret
      exact ⟨rfl, _, rfl⟩
    · have g1 : decide ((48 : Int) ≤ C) = false := by simp; omega
      clear hn hc hD hcc h48 hend hi
      go_enter Tryd.func66, Tryd.ntmps66
      go_wp2_with fail
      go_quiet (fail)
      go_wp2
      go_ret
      exact ⟨rfl, _, rfl⟩

set_option maxRecDepth 20000 in
set_option maxHeartbeats 2000000 in
theorem digit_yes (t : List UInt8) (B i : Nat) (c : UInt8) (w : World) (h : ReadAt w B t i) (hc : t[i]? = some c) (h1 : 48 ≤ c.toNat) (h2 : c.toNat ≤ 57) (ht : t.length ≤ 3000) :
    Calls Tryd.prog 65 #[.pointer (some ⟨B, 0, none⟩)] w fun e w' => e = .returned (.int .i64 ((c.toNat - 48 : Nat) : Int)) ∧ ReadAt w' B t ((i + 1 : Nat) : Int) ∧ w.grownBy w' (some B) := by
  have HR : Hid (ReadAt w B t i) := h
  have hil : i < t.length := by
    rcases Nat.lt_or_ge i t.length with q | q
    · omega
    · rw [List.getElem?_eq_none q] at hc; cases hc
  have HY : Hid (Calls Tryd.prog 66 #[.pointer (some ⟨B, 0, none⟩)] w fun e w' => e = .returned (.bool true) ∧ ∃ n, w' = w.drewN n) := isAt_yes t B i c w h hc h1 h2 ht
  have f1 := h.frozen 1
  obtain ⟨C, hD⟩ : ∃ C : Int, (c.toNat : Int) = C := ⟨_, rfl⟩
  have x1 : ∀ w : World, (Instr.index 9 (.string ⟨t.toArray⟩) (.int .i64 i)).run Tryd.prog w = .ok (.int .u8 C) w := fun w => by rw [← hD]; exact idx_st t i c w hc
  have HC : Hid (((c.toNat - 48 : Nat) : Int) = C - 48) := by show _ = _; omega
  have g1 : (48 : Int) ≤ C := by omega
  have g2 : C ≤ 57 := by omega
  clear h hc hD h1 h2 f1
  go_enter Tryd.func65, Tryd.ntmps65
  go_wp2_with fail
  refine HY.out.mono ?_
  rintro e w1 ⟨rfl, n, rfl⟩
  have HR1 : Hid (ReadAt (w.drewN n) B t i) := HR.out.of_block rfl
  have c0 := HR1.out.c0
  have c1 := HR1.out.c1
  have f1 := HR1.out.frozen 1
  have HR2 : Hid (ReadAt ((w.drewN n).setCell ⟨B, 1, none⟩ (.int .i64 ((i + 1 : Nat) : Int))) B t ((i + 1 : Nat) : Int)) := HR.out.at_ n _
  have HG2 : Hid (w.grownBy ((w.drewN n).setCell ⟨B, 1, none⟩ (.int .i64 ((i + 1 : Nat) : Int))) (some B)) := grown_tr (grown_drawn _ _ _) (grown_set _ _ _ _)
  generalize w.drewN n = W at *
  go_wp2_with fail
  go_quiet (fail)
  go_wp2
  go_ret
  exact ⟨by rw [HC.out]; rfl, HR2.out.of_block rfl, grown_tr HG2.out (grown_drawn _ _ _)⟩

set_option maxHeartbeats 2000000 in
theorem digit_no (t : List UInt8) (B i : Nat) (w : World) (h : ReadAt w B t i) (hi : i ≤ t.length) (hn : ¬ AtDig t i) (ht : t.length ≤ 3000) :
    Calls Tryd.prog 65 #[.pointer (some ⟨B, 0, none⟩)] w fun e w' => e = .panicked (left_ i) ∧ w.grownBy w' (some B) := by
  have HY : Hid (Calls Tryd.prog 66 #[.pointer (some ⟨B, 0, none⟩)] w fun e w' => e = .returned (.bool false) ∧ ∃ n, w' = w.drewN n) := isAt_no t B i w h hi hn ht
  have HR : Hid (ReadAt w B t i) := h
  clear h hn
  go_enter Tryd.func65, Tryd.ntmps65
  go_wp2_with fail
  refine HY.out.mono ?_
  rintro e w1 ⟨rfl, n, rfl⟩
  have HR1 : Hid (ReadAt (w.drewN n) B t i) := HR.out.of_block rfl
  have c0 := HR1.out.c0
  have c1 := HR1.out.c1
  go_wp2
  exact ⟨rfl, rfl, grown_drawn _ _ _⟩

theorem atDig_head {t : List UInt8} {p : Nat} : AtDig t p ↔ DigHead (t.drop p) := by
  constructor
  · rintro ⟨c, h, h1⟩
    have hp : p < t.length := by
      rcases Nat.lt_or_ge p t.length with q | q
      · exact q
      · rw [List.getElem?_eq_none q] at h; cases h
    rw [List.getElem?_eq_getElem hp] at h
    exact ⟨c, t.drop (p + 1), by rw [List.drop_eq_getElem_cons hp, Option.some.inj h], h1⟩
  · rintro ⟨c, r, h, h1⟩
    refine ⟨c, ?_, h1⟩
    have := congrArg (fun l => l[0]?) h
    simpa using this
theorem numGo_stop {j n : Nat} {r : List UInt8} (h : j = 0 ∨ n = 0 ∨ ¬ DigHead r) : numGo j n r = (n, 0) := by
  cases j with
  | zero => rfl
  | succ j =>
    cases r with
    | nil => rfl
    | cons c r =>
      rw [numGo_cons, if_neg]
      rintro ⟨h1, h2⟩
      rcases h with h | h | h
      · omega
      · omega
      · exact h ⟨c, r, rfl, h2⟩
theorem numGo_step {j n p : Nat} {t : List UInt8} {c : UInt8} (hn : 0 < n) (hc : t[p]? = some c) (h1 : 48 ≤ c.toNat) (h2 : c.toNat ≤ 57) : numGo (j + 1) n (t.drop p) = ((numGo j (n * 10 + (c.toNat - 48)) (t.drop (p + 1))).1, (numGo j (n * 10 + (c.toNat - 48)) (t.drop (p + 1))).2 + 1) := by
  have hp : p < t.length := by
    rcases Nat.lt_or_ge p t.length with q | q
    · exact q
    · rw [List.getElem?_eq_none q] at hc; cases hc
  rw [List.getElem?_eq_getElem hp] at hc
  rw [List.drop_eq_getElem_cons hp, Option.some.inj hc, numGo_cons, if_pos ⟨hn, h1, h2⟩]
theorem rnum_cons (c : UInt8) (r : List UInt8) : rnum (c :: r) = if 48 ≤ c.toNat ∧ c.toNat ≤ 57 then Rd.ok (numGo 8 (c.toNat - 48) r).1 ((numGo 8 (c.toNat - 48) r).2 + 1) else Rd.bad 0 := rfl
theorem rnum_yes {t : List UInt8} {i : Nat} {c : UInt8} (hc : t[i]? = some c) (h1 : 48 ≤ c.toNat) (h2 : c.toNat ≤ 57) : rnum (t.drop i) = Rd.ok (numGo 8 (c.toNat - 48) (t.drop (i + 1))).1 ((numGo 8 (c.toNat - 48) (t.drop (i + 1))).2 + 1) := by
  have hp : i < t.length := by
    rcases Nat.lt_or_ge i t.length with q | q
    · exact q
    · rw [List.getElem?_eq_none q] at hc; cases hc
  rw [List.getElem?_eq_getElem hp] at hc
  rw [List.drop_eq_getElem_cons hp, Option.some.inj hc, rnum_cons, if_pos ⟨h1, h2⟩]
theorem rnum_no {t : List UInt8} {i : Nat} (h : ¬ AtDig t i) : rnum (t.drop i) = Rd.bad 0 := by
  rw [atDig_head] at h
  cases e : t.drop i with
  | nil => rfl
  | cons c r =>
    rw [rnum_cons, if_neg]
    intro q
    exact h ⟨c, r, e, q⟩
/-- What a number comes to in the program. -/
def NumI (t : List UInt8) (i B : Nat) (e : Ending) (w' : World) : Prop :=
  (∃ n m : Nat, rnum (t.drop i) = Rd.ok n m ∧ n ≤ 999999999 ∧ i + m ≤ t.length ∧ e = .returned (.int .i64 (n : Int)) ∧ ReadAt w' B t ((i + m : Nat) : Int)) ∨ (rnum (t.drop i) = Rd.bad 0 ∧ e = .panicked (left_ i))

set_option maxRecDepth 20000 in
set_option maxHeartbeats 4000000 in
theorem number_any (t : List UInt8) (B i : Nat) (w : World) (h : ReadAt w B t i) (hi : i ≤ t.length) (ht : t.length ≤ 3000) :
    Calls Tryd.prog 61 #[.pointer (some ⟨B, 0, none⟩)] w fun e w' => NumI t i B e w' ∧ w.grownBy w' (some B) := by
  have HR : Hid (ReadAt w B t i) := h
  by_cases hd : AtDig t i
  · obtain ⟨c, hc, h1, h2⟩ := hd
    have hil : i < t.length := by
      rcases Nat.lt_or_ge i t.length with q | q
      · omega
      · rw [List.getElem?_eq_none q] at hc; cases hc
    have HD := digit_yes t B i c w h hc h1 h2 ht
    have HDD : Hid (Calls Tryd.prog 65 #[.pointer (some ⟨B, 0, none⟩)] w fun e w' => e = .returned (.int .i64 ((c.toNat - 48 : Nat) : Int)) ∧ ReadAt w' B t ((i + 1 : Nat) : Int) ∧ w.grownBy w' (some B)) := HD
    have hn0 : c.toNat - 48 ≤ 9 := by omega
    have HX : Hid (rnum (t.drop i) = Rd.ok (numGo 8 (c.toNat - 48) (t.drop (i + 1))).1 ((numGo 8 (c.toNat - 48) (t.drop (i + 1))).2 + 1)) := rnum_yes hc h1 h2
    generalize c.toNat - 48 = n0 at *
    clear h hc h1 h2 HD
    go_enter Tryd.func61, Tryd.ntmps61
    go_wp2_with fail
    refine HDD.out.mono ?_
    rintro e w1 ⟨rfl, hr1, hg1⟩
    have HR1 : Hid (ReadAt w1 B t ((i + 1 : Nat) : Int)) := hr1
    have HG1 : Hid (w.grownBy w1 (some B)) := hg1
    clear hr1 hg1 HDD HR
    go_wp2_with fail
    go_loopw [3, 4] (fun sn sk wr => ∃ n k p : Nat, sn = .int .i64 n ∧ sk = .int .i64 k ∧ p ≤ t.length ∧ n ≤ 999999999 ∧ 1 ≤ k ∧ k ≤ 9 ∧ Hid (p = i + k) ∧ Hid (n < 10 ^ k) ∧ Hid (rnum (t.drop i) = Rd.ok (numGo (9 - k) n (t.drop p)).1 (k + (numGo (9 - k) n (t.drop p)).2)) ∧ Hid (ReadAt wr B t (p : Int)) ∧ Hid (w.grownBy wr (some B))) (fun _ sk _ => 9 - (intOf sk).toNat)
    case atStart => exact ⟨n0, 1, i + 1, rfl, rfl, by omega, by omega, by omega, by omega, rfl, by show _ < _; omega, by show _ = Rd.ok (numGo 8 n0 (t.drop (i + 1))).1 (1 + (numGo 8 n0 (t.drop (i + 1))).2); rw [HX.out]; exact congrArg (Rd.ok _) (Nat.add_comm _ _), HR1.out, HG1.out⟩
    case round =>
      obtain ⟨n, k, p, rfl, rfl, hp, hn9, hk1, hk9, HP, HN, HS, HQ, HG⟩ := hrel
      have hfin : Hid ((9 - k = 0 ∨ n = 0 ∨ ¬ DigHead (t.drop p)) → rnum (t.drop i) = Rd.ok n k) := fun q => by have := HS.out; rw [numGo_stop q] at this; exact this
      by_cases hz : n = 0
      · have hn0' : decide ((0 : Int) < (n : Int)) = false := by simp; omega
        have hn1 : decide (0 < n) = false := by simp; omega
        have HE : Hid (rnum (t.drop i) = Rd.ok n k) := hfin.out (Or.inr (Or.inl hz))
        clear hz
        go_wp2
        go_ret
        have hpk := HP.out
        exact ⟨Or.inl ⟨n, k, HE.out, hn9, by omega, rfl, by rw [← hpk]; exact HQ.out⟩, HG.out⟩
      · have hn0' : (0 : Int) < (n : Int) := by omega
        have hn1 : 0 < n := by omega
        by_cases h9 : k = 9
        · have hk' : decide ((k : Int) < 9) = false := by simp; omega
          have HE : Hid (rnum (t.drop i) = Rd.ok n k) := hfin.out (Or.inl (by omega))
          have hk'' : decide (k < 9) = false := by simp; omega
          clear h9 hz
          go_wp2
          go_ret
          have hpk := HP.out
          exact ⟨Or.inl ⟨n, k, HE.out, hn9, by omega, rfl, by rw [← hpk]; exact HQ.out⟩, HG.out⟩
        · have hk' : (k : Int) < 9 := by omega
          have hk'' : k < 9 := by omega
          by_cases hd : AtDig t p
          · obtain ⟨d, hc, h1, h2⟩ := hd
            have hpl : p < t.length := by
              rcases Nat.lt_or_ge p t.length with q | q
              · omega
              · rw [List.getElem?_eq_none q] at hc; cases hc
            have HY : Hid (Calls Tryd.prog 66 #[.pointer (some ⟨B, 0, none⟩)] wr fun e w' => e = .returned (.bool true) ∧ ∃ n, w' = wr.drewN n) := isAt_yes t B p d wr HQ.out hc h1 h2 ht
            have HDD : Hid (∀ y, ReadAt y B t p → Calls Tryd.prog 65 #[.pointer (some ⟨B, 0, none⟩)] y fun e w' => e = .returned (.int .i64 ((d.toNat - 48 : Nat) : Int)) ∧ ReadAt w' B t ((p + 1 : Nat) : Int) ∧ y.grownBy w' (some B)) := fun y hy => digit_yes t B p d y hy hc h1 h2 ht
            have HST : Hid (numGo (9 - k) n (t.drop p) = ((numGo (8 - k) (n * 10 + (d.toNat - 48)) (t.drop (p + 1))).1, (numGo (8 - k) (n * 10 + (d.toNat - 48)) (t.drop (p + 1))).2 + 1)) := by
              have := numGo_step (j := 8 - k) (n := n) hn1 hc h1 h2
              rw [show 8 - k + 1 = 9 - k by omega] at this
              exact this
            have hd9 : d.toNat - 48 ≤ 9 := by omega
            generalize d.toNat - 48 = d0 at *
            clear hc h1 h2 hz h9
            go_wp2_with fail
            refine HY.out.mono ?_
            rintro e w2 ⟨rfl, nq, rfl⟩
            have HQ2 : Hid (ReadAt (wr.drewN nq) B t p) := HQ.out.of_block rfl
            have HG2 : Hid (w.grownBy (wr.drewN nq) (some B)) := grown_tr HG.out (grown_drawn _ _ _)
            go_wp2_with fail
            refine (HDD.out _ HQ2.out).mono ?_
            rintro e w3 ⟨rfl, hr3, hg3⟩
            have HQ3 : Hid (ReadAt w3 B t ((p + 1 : Nat) : Int)) := hr3
            have HG3 : Hid (w.grownBy w3 (some B)) := grown_tr HG2.out hg3
            have HN1 : Hid (n * 10 + d0 < 10 ^ (k + 1)) := by have := HN.out; show _ < _; rw [Nat.pow_succ]; omega
            have HN2 : Hid (n * 10 + d0 ≤ 999999999) := by
              have h1 := HN1.out
              have h2 : 10 ^ (k + 1) ≤ 10 ^ 9 := Nat.pow_le_pow_right (by omega) (by omega)
              show _ ≤ _
              omega
            clear hr3 hg3 HY HDD
            go_wp2
            go_roundw
            case rel =>
              have hpk := HP.out
              refine ⟨n * 10 + d0, k + 1, p + 1, by go_num, by go_num, by omega, HN2.out, by omega, by omega, by show _ = _; omega, HN1.out, ?_, HQ3.out, HG3.out⟩
              show _ = _
              have h3 := HS.out
              rw [HST.out] at h3
              rw [h3, show 9 - (k + 1) = 8 - k by omega]
              rw [show k + 1 + (numGo (8 - k) (n * 10 + d0) (t.drop (p + 1))).2 = k + ((numGo (8 - k) (n * 10 + d0) (t.drop (p + 1))).2 + 1) by omega]
            case measure => simp [intOf]; omega
          · have HY : Hid (Calls Tryd.prog 66 #[.pointer (some ⟨B, 0, none⟩)] wr fun e w' => e = .returned (.bool false) ∧ ∃ n, w' = wr.drewN n) := isAt_no t B p wr HQ.out hp hd ht
            have HE : Hid (rnum (t.drop i) = Rd.ok n k) := hfin.out (Or.inr (Or.inr (fun q => hd (atDig_head.2 q))))
            clear hd hz h9
            go_wp2_with fail
            refine HY.out.mono ?_
            rintro e w2 ⟨rfl, nq, rfl⟩
            go_wp2
            go_ret
            have hpk := HP.out
            exact ⟨Or.inl ⟨n, k, HE.out, hn9, by omega, rfl, by rw [← hpk]; exact HQ.out.of_block rfl⟩, grown_tr HG.out (grown_drawn _ _ _)⟩
  · have HD : Hid (Calls Tryd.prog 65 #[.pointer (some ⟨B, 0, none⟩)] w fun e w' => e = .panicked (left_ i) ∧ w.grownBy w' (some B)) := digit_no t B i w h hi hd ht
    have HX : Hid (rnum (t.drop i) = Rd.bad 0) := rnum_no hd
    clear h hd
    go_enter Tryd.func61, Tryd.ntmps61
    go_wp2_with fail
    refine HD.out.mono ?_
    rintro e w1 ⟨rfl, hg1⟩
    go_wp2
    exact ⟨rfl, Or.inr ⟨HX.out, rfl⟩, hg1⟩

end Go.Proofs.YteodefmpkljedaaDoor
