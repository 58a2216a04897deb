/-
  The model's reader: a number.
-/
import Derived.Test.YteodefmpkljedaaDoorSpecRead1
namespace Go.Proofs.YteodefmpkljedaaDoor
open Go.RowKit Go.Sort Go.Shelf
set_option linter.unusedVariables false
set_option linter.unusedSimpArgs false

def atOf (w : World) (R : Nat) : Nat := match w.cell? ⟨R, 1, none⟩ with | some (.int _ i) => i.toNat | _ => 0
theorem RdAt.atOf {w : World} {R : Nat} {t : List UInt8} {i b : Int} (h : RdAt w R t i b) : Go.Proofs.YteodefmpkljedaaDoor.atOf w R = i.toNat := by unfold Go.Proofs.YteodefmpkljedaaDoor.atOf; rw [h.c1]
theorem numSF_dig {t : List UInt8} {p n k : Nat} {c : UInt8} (h : t[p]? = some c) : numSF n k (t.drop p) = if 48 ≤ c.toNat ∧ c.toNat ≤ 57 then (if k = 9 ∨ (0 < k ∧ n = 0) then Rd.bad k else numSF (10 * n + (c.toNat - 48)) (k + 1) (t.drop (p + 1))) else if k = 0 then Rd.bad 0 else Rd.ok n k := by
  have hp : p < t.length := by
    rcases Nat.lt_or_ge p t.length with q | q
    · exact q
    · rw [List.getElem?_eq_none q] at h; cases h
  rw [List.getElem?_eq_getElem hp] at h
  rw [List.drop_eq_getElem_cons hp, Option.some.inj h]
  rfl
theorem numSF_end {t : List UInt8} {p n k : Nat} (h : p = t.length) : numSF n k (t.drop p) = if k = 0 then Rd.bad 0 else Rd.ok n k := by
  rw [List.drop_of_length_le (by omega)]
  rfl
/-- What a number comes to. -/
def NumTo (t : List UInt8) (i R : Nat) (e : Ending) (w' : World) : Prop :=
  (∃ n m : Nat, numS (t.drop i) = Rd.ok n m ∧ n ≤ 999999999 ∧ i + m ≤ t.length ∧ e = .returned (.int .i64 (n : Int)) ∧ RdAt w' R t ((i + m : Nat) : Int) (-1)) ∨ (∃ m : Nat, numS (t.drop i) = Rd.bad m ∧ i + m ≤ t.length ∧ e = .returned (.int .i64 0) ∧ RdAt w' R t ((i + m : Nat) : Int) ((i + m : Nat) : Int))

set_option maxRecDepth 20000 in
set_option maxHeartbeats 4000000 in
theorem num_any (t : List UInt8) (R i : Nat) (w : World) (h : RdAt w R t i (-1)) (hi : i ≤ t.length) (ht : t.length ≤ 3000) :
    Calls Tryd.prog 22 #[.pointer (some ⟨R, 0, none⟩)] w fun e w' => NumTo t i R e w' ∧ w.grownBy w' (some R) := by
  have HR : Hid (RdAt w R t i (-1)) := h
  have c1 := h.c1
  clear h
  go_enter Tryd.func22, Tryd.ntmps22
  go_wp2_with fail
  clear c1
  go_loopw [3] (fun sn wr => ∃ n k p : Nat, sn = .int .i64 n ∧ p ≤ t.length ∧ i ≤ p ∧ n ≤ 999999999 ∧ Hid (p = i + k) ∧ Hid (n < 10 ^ k) ∧ Hid (k ≤ 9) ∧ Hid (numSF n k (t.drop p) = numS (t.drop i)) ∧ Hid (RdAt wr R t (p : Int) (-1)) ∧ Hid (w.grownBy wr (some R))) (fun _ wr => t.length - atOf wr R)
  case atStart => exact ⟨0, 0, i, rfl, hi, Nat.le_refl _, by omega, rfl, by show _ < _; simp, by show _ ≤ _; omega, rfl, HR.out, World.grownBy.refl _ _⟩
  case round =>
    obtain ⟨n, k, p, rfl, hp, hip, hn9, HP, HN, HK, HS, HQ, HG⟩ := hrel
    have c0 := HQ.out.c0
    have c1 := HQ.out.c1
    have c2 := HQ.out.c2
    have f1 := HQ.out.frozen 1
    have f2 := HQ.out.frozen 2
    by_cases hend : p = t.length
    · have hnl : decide ((p : Int) < (t.length : Int)) = false := by simp; omega
      have hnl' : decide (p < t.length) = false := by simp; omega
      have hS := HS.out
      rw [numSF_end hend] at hS
      by_cases hk : k = 0
      · have e1 : p = i := by have := HP.out; omega
        have e2 : n = 0 := by have := HN.out; rw [hk] at this; simpa using this
        rw [if_pos hk] at hS
        have HB : Hid (numS (t.drop i) = Rd.bad 0) := hS.symm
        subst e1 e2
        clear hS hk hend
        go_wp2_with fail
        go_quiet (fail)
        go_wp2
        go_ret
        exact ⟨Or.inr ⟨0, HB.out, by omega, rfl, HQ.out.bad_ _ _⟩, grown_tr (grown_tr HG.out (grown_drawn _ _ _)) (grown_set _ _ _ _)⟩
      · have hE : ((p : Int) == (i : Int)) = false := by have := HP.out; simp; omega
        have hE' : (p == i) = false := by have := HP.out; simp; omega
        rw [if_neg hk] at hS
        have HB : Hid (numS (t.drop i) = Rd.ok n k) := hS.symm
        clear hS hk hend
        go_wp2_with fail
        go_quiet (fail)
        go_wp2
        go_ret
        have hpk := HP.out
        exact ⟨Or.inl ⟨n, k, HB.out, hn9, by omega, rfl, by rw [← hpk]; exact HQ.out.of_block rfl⟩, grown_tr HG.out (grown_drawn _ _ _)⟩
    · obtain ⟨c, hc⟩ := get_of (t := t) (p := p) (by omega)
      have hlt : (p : Int) < (t.length : Int) := by omega
      have hlt' : p < t.length := by omega
      have hS := HS.out
      rw [numSF_dig hc] at hS
      obtain ⟨C, hD⟩ : ∃ C : Int, (c.toNat : Int) = C := ⟨_, rfl⟩
      have x1 : ∀ w : World, (Instr.index 9 (.string ⟨t.toArray⟩) (.int .i64 p)).run Tryd.prog w = .ok (.int .u8 C) w := fun w => by rw [← hD]; exact idx_str t p c w hc
      by_cases h48 : 48 ≤ c.toNat
      · have g1 : (48 : Int) ≤ C := by omega
        by_cases h57 : c.toNat ≤ 57
        · have g2 : C ≤ 57 := by omega
          rw [if_pos ⟨h48, h57⟩] at hS
          by_cases h9 : k = 9
          · rw [if_pos (Or.inl h9)] at hS
            have hE9 : ((p : Int) - (i : Int) == 9) = true := by have := HP.out; simp; omega
            have HB : Hid (numS (t.drop i) = Rd.bad k) := hS.symm
            clear hS h9 hc hend hD h48 h57
            go_wp2_with fail
            go_quiet (fail)
            go_wp2
            go_ret
            have hpk := HP.out
            exact ⟨Or.inr ⟨k, HB.out, by omega, rfl, by rw [← hpk]; exact HQ.out.bad_ _ _⟩, grown_tr (grown_tr HG.out (grown_drawn _ _ _)) (grown_set _ _ _ _)⟩
          · have hE9 : ((p : Int) - (i : Int) == 9) = false := by have := HP.out; simp; omega
            by_cases hk : 0 < k
            · have hgt : (i : Int) < (p : Int) := by have := HP.out; omega
              have hgt' : i < p := by omega
              by_cases hz : n = 0
              · rw [if_pos (Or.inr ⟨hk, hz⟩)] at hS
                subst hz
                have hn0 : (((0 : Nat) : Int) == 0) = true := rfl
                have HB : Hid (numS (t.drop i) = Rd.bad k) := hS.symm
                clear hS h9 hk hc hend hD h48 h57
                go_wp2_with fail
                go_quiet (fail)
                go_wp2
                go_ret
                have hpk := HP.out
                exact ⟨Or.inr ⟨k, HB.out, by omega, rfl, by rw [← hpk]; exact HQ.out.bad_ _ _⟩, grown_tr (grown_tr HG.out (grown_drawn _ _ _)) (grown_set _ _ _ _)⟩
              · rw [if_neg (by omega)] at hS
                have hn0 : ((n : Int) == 0) = false := by simp; omega
                have hn0' : (n == 0) = false := by simp; omega
                have HS1 : Hid (numSF (10 * n + (c.toNat - 48)) (k + 1) (t.drop (p + 1)) = numS (t.drop i)) := hS
                have HN1 : Hid (10 * n + (c.toNat - 48) < 10 ^ (k + 1)) := by have := HN.out; have := hD; show _ < _; rw [Nat.pow_succ]; omega
                have HN2 : Hid (10 * n + (c.toNat - 48) ≤ 999999999) := by
                  have h1 := HN1.out
                  have h2 : 10 ^ (k + 1) ≤ 10 ^ 9 := Nat.pow_le_pow_right (by omega) (by have := HK.out; omega)
                  show _ ≤ _
                  omega
                have HC : Hid (((10 * n + (c.toNat - 48) : Nat) : Int) = 10 * (n : Int) + (C - 48)) := by have := hD; show _ = _; omega
                have HK1 : Hid (k + 1 ≤ 9) := by have := HK.out; show _ ≤ _; omega
                clear hS hD h9 hk hz hc hend h48 h57
                go_wp2_with fail
                go_quiet (fail)
                go_wp2_with fail
                go_quiet (fail)
                go_wp2
                go_roundw
                case rel =>
                  have hpk := HP.out
                  refine ⟨10 * n + (c.toNat - 48), k + 1, p + 1, ?_, by omega, by omega, HN2.out, by show _ = _; omega, HN1.out, HK1.out, HS1.out, HQ.out.at_ _ _, grown_tr (grown_tr HG.out (grown_drawn _ _ _)) (grown_set _ _ _ _)⟩
                  rw [HC.out]
                case measure =>
                  rw [(HQ.out.at_ _ _).atOf, HQ.out.atOf]
                  omega
            · rw [if_neg (by omega)] at hS
              have hgt : decide ((i : Int) < (p : Int)) = false := by have := HP.out; simp; omega
              have hgt' : decide (i < p) = false := by have := HP.out; simp; omega
              have HS1 : Hid (numSF (10 * n + (c.toNat - 48)) (k + 1) (t.drop (p + 1)) = numS (t.drop i)) := hS
              have HN1 : Hid (10 * n + (c.toNat - 48) < 10 ^ (k + 1)) := by have := HN.out; have := hD; show _ < _; rw [Nat.pow_succ]; omega
              have HN2 : Hid (10 * n + (c.toNat - 48) ≤ 999999999) := by
                have h1 := HN1.out
                have h2 : 10 ^ (k + 1) ≤ 10 ^ 9 := Nat.pow_le_pow_right (by omega) (by have := HK.out; omega)
                show _ ≤ _
                omega
              have HC : Hid (((10 * n + (c.toNat - 48) : Nat) : Int) = 10 * (n : Int) + (C - 48)) := by have := hD; show _ = _; omega
              have HK1 : Hid (k + 1 ≤ 9) := by have := HK.out; show _ ≤ _; omega
              clear hS hD h9 hk hc hend h48 h57
              go_wp2_with fail
              go_quiet (fail)
              go_wp2_with fail
              go_quiet (fail)
              go_wp2
              go_roundw
              case rel =>
                have hpk := HP.out
                refine ⟨10 * n + (c.toNat - 48), k + 1, p + 1, ?_, by omega, by omega, HN2.out, by show _ = _; omega, HN1.out, HK1.out, HS1.out, HQ.out.at_ _ _, grown_tr (grown_tr HG.out (grown_drawn _ _ _)) (grown_set _ _ _ _)⟩
                rw [HC.out]
              case measure =>
                rw [(HQ.out.at_ _ _).atOf, HQ.out.atOf]
                omega
        · have g2 : decide (C ≤ 57) = false := by simp; omega
          rw [if_neg (fun q => h57 q.2)] at hS
          by_cases hk : k = 0
          · have e1 : p = i := by have := HP.out; omega
            have e2 : n = 0 := by have := HN.out; rw [hk] at this; simpa using this
            rw [if_pos hk] at hS
            have HB : Hid (numS (t.drop i) = Rd.bad 0) := hS.symm
            subst e1 e2
            clear hS hk hc hend hD h48 h57
            go_wp2_with fail
            go_quiet (fail)
            go_wp2
            go_ret
            exact ⟨Or.inr ⟨0, HB.out, by omega, rfl, HQ.out.bad_ _ _⟩, grown_tr (grown_tr HG.out (grown_drawn _ _ _)) (grown_set _ _ _ _)⟩
          · have hE : ((p : Int) == (i : Int)) = false := by have := HP.out; simp; omega
            have hE' : (p == i) = false := by have := HP.out; simp; omega
            rw [if_neg hk] at hS
            have HB : Hid (numS (t.drop i) = Rd.ok n k) := hS.symm
            clear hS hk hc hend hD h48 h57
            go_wp2_with fail
            go_quiet (fail)
            go_wp2
            go_ret
            have hpk := HP.out
            exact ⟨Or.inl ⟨n, k, HB.out, hn9, by omega, rfl, by rw [← hpk]; exact HQ.out.of_block rfl⟩, grown_tr HG.out (grown_drawn _ _ _)⟩
      · have g1 : decide ((48 : Int) ≤ C) = false := by simp; omega
        rw [if_neg (fun q => h48 q.1)] at hS
        by_cases hk : k = 0
        · have e1 : p = i := by have := HP.out; omega
          have e2 : n = 0 := by have := HN.out; rw [hk] at this; simpa using this
          rw [if_pos hk] at hS
          have HB : Hid (numS (t.drop i) = Rd.bad 0) := hS.symm
          subst e1 e2
          clear hS hk hc hend hD h48
          go_wp2_with fail
          go_quiet (fail)
          go_wp2
          go_ret
          exact ⟨Or.inr ⟨0, HB.out, by omega, rfl, HQ.out.bad_ _ _⟩, grown_tr (grown_tr HG.out (grown_drawn _ _ _)) (grown_set _ _ _ _)⟩
        · have hE : ((p : Int) == (i : Int)) = false := by have := HP.out; simp; omega
          have hE' : (p == i) = false := by have := HP.out; simp; omega
          rw [if_neg hk] at hS
          have HB : Hid (numS (t.drop i) = Rd.ok n k) := hS.symm
          clear hS hk hc hend hD h48
          go_wp2_with fail
          go_quiet (fail)
          go_wp2
          go_ret
          have hpk := HP.out
          exact ⟨Or.inl ⟨n, k, HB.out, hn9, by omega, rfl, by rw [← hpk]; exact HQ.out.of_block rfl⟩, grown_tr HG.out (grown_drawn _ _ _)⟩

end Go.Proofs.YteodefmpkljedaaDoor
