/-
  The model's reader: one of some words.
-/
import Derived.Test.YteodefmpkljedaaDoorSpecRead2
namespace Go.Proofs.YteodefmpkljedaaDoor
open Go.RowKit Go.Sort Go.Shelf
set_option linter.unusedVariables false
set_option linter.unusedSimpArgs false

theorem wrd_len (id : Nat) : 1 ≤ (wrd id).length ∧ (wrd id).length ≤ 7 := by unfold wrd; split <;> simp
/-- What a word comes to. -/
def WordTo (t : List UInt8) (ws : List Nat) (i R : Nat) (e : Ending) (w' : World) : Prop :=
  (∃ id m : Nat, rword ws (t.drop i) = Rd.ok id m ∧ e = .returned (.string ⟨(wrd id).toArray⟩) ∧ RdAt w' R t ((i + m : Nat) : Int) (-1)) ∨ (∃ m : Nat, rword ws (t.drop i) = Rd.bad m ∧ i + m ≤ t.length ∧ e = .returned (.string ⟨#[]⟩) ∧ RdAt w' R t (i : Int) ((i + m : Nat) : Int))
theorem drop_get {α : Type} {l : List α} {q : Nat} {x : α} (h : l[q]? = some x) : l.drop q = x :: l.drop (q + 1) := by
  have hp : q < l.length := by
    rcases Nat.lt_or_ge q l.length with k | k
    · exact k
    · rw [List.getElem?_eq_none k] at h; cases h
  rw [List.getElem?_eq_getElem hp] at h
  rw [List.drop_eq_getElem_cons hp, Option.some.inj h]
theorem wordFrom_hit {far id : Nat} {vs : List Nat} {r : List UInt8} (h : alikeN r (wrd id) = (wrd id).length) : wordFrom far (id :: vs) r = Rd.ok id (wrd id).length := by rw [wordFrom, if_pos h]
theorem wordFrom_miss {far id : Nat} {vs : List Nat} {r : List UInt8} (h : alikeN r (wrd id) < (wrd id).length) : wordFrom far (id :: vs) r = wordFrom (max far (alikeN r (wrd id))) vs r := by rw [wordFrom, if_neg (by omega)]

set_option maxRecDepth 20000 in
set_option maxHeartbeats 8000000 in
theorem word_any (t : List UInt8) (ws : List Nat) (R i g cap : Nat) (w : World) (h : RdAt w R t i (-1)) (hi : i ≤ t.length) (ht : t.length ≤ 3000) (hws : ws.length ≤ 3) (hgR : g ≠ R) (hl : ∀ j id : Nat, ws[j]? = some id → w.cell? ⟨g, j, none⟩ = some (.string ⟨(wrd id).toArray⟩)) :
    Calls Tryd.prog 21 #[.pointer (some ⟨R, 0, none⟩), .slice (some ⟨g, 0, none⟩) ws.length cap] w fun e w' => WordTo t ws i R e w' ∧ w.grownBy w' (some R) := by
  have HR : Hid (RdAt w R t i (-1)) := h
  have HL : Hid (∀ j id : Nat, ws[j]? = some id → w.cell? ⟨g, j, none⟩ = some (.string ⟨(wrd id).toArray⟩)) := hl
  clear h hl
  go_enter Tryd.func21, Tryd.ntmps21
  go_wp2_with fail
  go_loopw [5, 11] (fun sf sq wr => ∃ far q : Nat, sf = .int .i64 far ∧ sq = .int .i64 q ∧ q ≤ ws.length ∧ far ≤ 7 ∧ i + far ≤ t.length ∧ Hid (wordFrom far (ws.drop q) (t.drop i) = rword ws (t.drop i)) ∧ Hid (RdAt wr R t (i : Int) (-1)) ∧ Hid (w.grownBy wr (some R))) (fun _ sq _ => ws.length - (intOf sq).toNat)
  case atStart => exact ⟨0, 0, rfl, rfl, Nat.zero_le _, by omega, by omega, rfl, HR.out, World.grownBy.refl _ _⟩
  case round =>
    obtain ⟨far, q, rfl, rfl, hq, hfar, hfi, HF, HQ, HG⟩ := hrel
    by_cases hlt : q < ws.length
    · have hqI : (q : Int) < (ws.length : Int) := by omega
      obtain ⟨id, hid⟩ : ∃ id, ws[q]? = some id := ⟨_, List.getElem?_eq_getElem hlt⟩
      have hcell : wr.cell? ⟨g, q, none⟩ = some (.string ⟨(wrd id).toArray⟩) := HG.out.cell (HL.out q id hid) (fun e => hgR (Option.some.inj e))
      obtain ⟨l1, l7⟩ := wrd_len id
      have HF1 : Hid (wordFrom far (id :: ws.drop (q + 1)) (t.drop i) = rword ws (t.drop i)) := by have := HF.out; rw [drop_get hid] at this; exact this
      obtain ⟨S, hS⟩ : ∃ S, wrd id = S := ⟨_, rfl⟩
      have HSW : Hid (wrd id = S) := hS
      rw [hS] at hcell l1 l7
      clear hS hid
      go_wp2_with fail
      clear hcell
      go_loopw [8] (fun sn wi => ∃ n : Nat, sn = .int .i64 n ∧ n ≤ S.length ∧ i + n ≤ t.length ∧ Hid (n + alikeN (t.drop (i + n)) (S.drop n) = alikeN (t.drop i) S) ∧ Hid (RdAt wi R t (i : Int) (-1)) ∧ Hid (w.grownBy wi (some R))) (fun sn _ => S.length - (intOf sn).toNat)
      case atStart => exact ⟨0, rfl, Nat.zero_le _, by omega, by show _ = _; simp, HQ.out, HG.out⟩
      case round =>
        obtain ⟨n, rfl, hn, hin, HA, HQ1, HG1⟩ := hrel
        have c0 := HQ1.out.c0
        have c1 := HQ1.out.c1
        have c2 := HQ1.out.c2
        have f1 := HQ1.out.frozen 1
        have f2 := HQ1.out.frozen 2
        by_cases hnl : n < S.length
        · have hnI : (n : Int) < (S.length : Int) := by omega
          by_cases hend : i + n = t.length
          · have hE : decide ((i : Int) + (n : Int) < (t.length : Int)) = false := by simp; omega
            have hE' : decide (i + n < t.length) = false := by simp; omega
            have HAL : Hid (alikeN (t.drop i) S = n) := by have := HA.out; rw [alike_end_l hend] at this; exact this.symm
            have hSL : ((n : Int) == (S.length : Int)) = false := by simp; omega
            have hSL' : (n == S.length) = false := by simp; omega
            have hHF := HF1.out
            rw [wordFrom_miss (by rw [HSW.out, HAL.out]; exact hnl), HSW.out, HAL.out] at hHF
            by_cases hfn : far < n
            · have hfI : (far : Int) < (n : Int) := by omega
              have HF2 : Hid (wordFrom n (ws.drop (q + 1)) (t.drop i) = rword ws (t.drop i)) := by rw [Nat.max_eq_right (by omega)] at hHF; exact hHF
              clear hHF hend
              go_wp2_with fail
              go_quiet (fail)
              go_wp2
              go_roundw
              case rel => exact ⟨n, q + 1, rfl, by go_num, by omega, by omega, by omega, HF2.out, HQ1.out.of_block rfl, grown_tr HG1.out (grown_drawn _ _ _)⟩
              case measure => simp [intOf]; omega
            · have hfI : decide ((far : Int) < (n : Int)) = false := by simp; omega
              have hfI2 : decide (far < n) = false := by simp; omega
              have HF2 : Hid (wordFrom far (ws.drop (q + 1)) (t.drop i) = rword ws (t.drop i)) := by rw [Nat.max_eq_left (by omega)] at hHF; exact hHF
              clear hHF hend
              go_wp2_with fail
              go_quiet (fail)
              go_wp2
              go_roundw
              case rel => exact ⟨far, q + 1, rfl, by go_num, by omega, by omega, by omega, HF2.out, HQ1.out.of_block rfl, grown_tr HG1.out (grown_drawn _ _ _)⟩
              case measure => simp [intOf]; omega
          · have hE : (i : Int) + (n : Int) < (t.length : Int) := by omega
            have hE' : i + n < t.length := by omega
            obtain ⟨c, hc⟩ := get_of hE'
            obtain ⟨d, hd⟩ := get_of hnl
            have x1 : ∀ w : World, (Instr.index 9 (.string ⟨t.toArray⟩) (.int .i64 ((i : Int) + (n : Int)))).run Tryd.prog w = .ok (.int .u8 (c.toNat : Int)) w := fun w => by have := idx_str t (i + n) c w hc; rw [Int.natCast_add] at this; exact this
            have x2 : ∀ w : World, (Instr.index 9 (.string ⟨S.toArray⟩) (.int .i64 n)).run Tryd.prog w = .ok (.int .u8 (d.toNat : Int)) w := fun w => idx_str S n d w hd
            have HST := HA.out
            rw [alike_step hc hd] at HST
            by_cases hcd : c = d
            · subst hcd
              rw [if_pos rfl] at HST
              have hne : ((c.toNat : Int) == (c.toNat : Int)) = true := by simp
              have HAL : Hid (n + 1 + alikeN (t.drop (i + n + 1)) (S.drop (n + 1)) = alikeN (t.drop i) S) := by show _ = _; omega
              clear HST hc hd
              go_wp2_with fail
              go_quiet (fail)
              go_wp2
              go_roundw
              case rel => exact ⟨n + 1, by go_num, by omega, by omega, HAL.out, HQ1.out.of_block rfl, grown_tr HG1.out (grown_drawn _ _ _)⟩
              case measure => simp [intOf]; omega
            · have hne : ((c.toNat : Int) == (d.toNat : Int)) = false := by
                simp
                intro e
                exact hcd (UInt8.toNat_inj.1 (by omega))
              have hne' : (c.toNat == d.toNat) = false := by
                simp
                intro e
                exact hcd (UInt8.toNat_inj.1 (by omega))
              rw [if_neg hcd] at HST
              have HAL : Hid (alikeN (t.drop i) S = n) := HST.symm
              clear HST
              have hSL : ((n : Int) == (S.length : Int)) = false := by simp; omega
              have hSL' : (n == S.length) = false := by simp; omega
              have hHF := HF1.out
              rw [wordFrom_miss (by rw [HSW.out, HAL.out]; exact hnl), HSW.out, HAL.out] at hHF
              by_cases hfn : far < n
              · have hfI : (far : Int) < (n : Int) := by omega
                have HF2 : Hid (wordFrom n (ws.drop (q + 1)) (t.drop i) = rword ws (t.drop i)) := by rw [Nat.max_eq_right (by omega)] at hHF; exact hHF
                clear hHF hc hd hend
                go_wp2_with fail
                go_quiet (fail)
                go_wp2
                go_roundw
                case rel => exact ⟨n, q + 1, rfl, by go_num, by omega, by omega, by omega, HF2.out, HQ1.out.of_block rfl, grown_tr HG1.out (grown_drawn _ _ _)⟩
                case measure => simp [intOf]; omega
              · have hfI : decide ((far : Int) < (n : Int)) = false := by simp; omega
                have hfI2 : decide (far < n) = false := by simp; omega
                have HF2 : Hid (wordFrom far (ws.drop (q + 1)) (t.drop i) = rword ws (t.drop i)) := by rw [Nat.max_eq_left (by omega)] at hHF; exact hHF
                clear hHF hc hd hend
                go_wp2_with fail
                go_quiet (fail)
                go_wp2
                go_roundw
                case rel => exact ⟨far, q + 1, rfl, by go_num, by omega, by omega, by omega, HF2.out, HQ1.out.of_block rfl, grown_tr HG1.out (grown_drawn _ _ _)⟩
                case measure => simp [intOf]; omega
        · have hnI : decide ((n : Int) < (S.length : Int)) = false := by simp; omega
          have hnI' : decide (n < S.length) = false := by simp; omega
          have en : n = S.length := by omega
          have HAL : Hid (rword ws (t.drop i) = Rd.ok id n) := by
            have h1 := HA.out
            rw [alike_end_r en] at h1
            have h2 := HF1.out
            rw [wordFrom_hit (by rw [HSW.out]; omega), HSW.out, ← en] at h2
            exact h2.symm
          have hSL : ((n : Int) == (S.length : Int)) = true := by simp; omega
          have hSL' : (n == S.length) = true := by simp; omega
          have HSW2 : Hid (wrd id = S) := HSW.out
          clear en hnl
          go_wp2_with fail
          go_quiet (fail)
          go_wp2
          go_ret
          exact ⟨Or.inl ⟨id, n, HAL.out, by rw [HSW2.out]; rfl, by rw [Int.natCast_add]; exact HQ1.out.at_ _ _⟩, grown_tr (grown_tr HG1.out (grown_drawn _ _ _)) (grown_set _ _ _ _)⟩
    · have hnl : decide ((q : Int) < (ws.length : Int)) = false := by simp; omega
      have hnl' : decide (q < ws.length) = false := by simp; omega
      have eq : q = ws.length := by omega
      have HB : Hid (rword ws (t.drop i) = Rd.bad far) := by
        have := HF.out
        rw [List.drop_of_length_le (by omega)] at this
        exact this.symm
      have c0 := HQ.out.c0
      have c1 := HQ.out.c1
      have c2 := HQ.out.c2
      have f2 := HQ.out.frozen 2
      clear eq hlt
      go_wp2
      go_ret
      exact ⟨Or.inr ⟨far, HB.out, hfi, rfl, by rw [Int.natCast_add]; exact HQ.out.bad_ 0 _⟩, grown_tr HG.out (grown_set _ _ _ _)⟩

end Go.Proofs.YteodefmpkljedaaDoor
