/-
  The program's reader: one of some words.
-/
import Derived.Test.YteodefmpkljedaaDoorImplRead1
import Derived.Test.YteodefmpkljedaaDoorWords
namespace Go.Proofs.YteodefmpkljedaaDoor
open Go.RowKit Go.Sort Go.Shelf
set_option linter.unusedVariables false
set_option linter.unusedSimpArgs false

theorem alike_st {t s : List UInt8} {p j : Nat} {c d : UInt8} (h1 : t[p]? = some c) (h2 : s[j]? = some d) : alikeN (t.drop p) (s.drop j) = if c = d then alikeN (t.drop (p + 1)) (s.drop (j + 1)) + 1 else 0 := by
  have g1 : t.drop p = c :: t.drop (p + 1) := by
    have hp : p < t.length := by
      rcases Nat.lt_or_ge p t.length with q | q
      · exact q
      · rw [List.getElem?_eq_none q] at h1; cases h1
    rw [List.getElem?_eq_getElem hp] at h1
    rw [List.drop_eq_getElem_cons hp, Option.some.inj h1]
  have g2 : s.drop j = d :: s.drop (j + 1) := by
    have hp : j < s.length := by
      rcases Nat.lt_or_ge j s.length with q | q
      · exact q
      · rw [List.getElem?_eq_none q] at h2; cases h2
    rw [List.getElem?_eq_getElem hp] at h2
    rw [List.drop_eq_getElem_cons hp, Option.some.inj h2]
  rw [g1, g2]
  rfl
theorem alike_no {t s : List UInt8} {n : Nat} (h : n = t.length ∨ n = s.length) : alikeN (t.drop n) (s.drop n) = 0 := by
  rcases h with h | h
  · rw [List.drop_of_length_le (by omega)]; rfl
  · rw [List.drop_of_length_le (l := s) (by omega)]; cases t.drop n <;> rfl

set_option maxRecDepth 20000 in
set_option maxHeartbeats 8000000 in
theorem alikeLen_any (t s : List UInt8) (w : World) (ht : t.length ≤ 3000) (hs : s.length ≤ 10) :
    Calls Tryd.prog 64 #[.string ⟨t.toArray⟩, .string ⟨s.toArray⟩] w fun e w' => e = .returned (.int .i64 (alikeN t s : Nat)) ∧ ∃ n, w' = w.drewN n := by
  go_enter Tryd.func64, Tryd.ntmps64
  go_wp2_with fail
  go_loopw [5] (fun sn wr => ∃ n : Nat, sn = .int .i64 n ∧ n ≤ t.length ∧ n ≤ s.length ∧ Hid (n + alikeN (t.drop n) (s.drop n) = alikeN t s) ∧ Hid (∃ m, wr = w.drewN m)) (fun sn _ => s.length - (intOf sn).toNat)
  case atStart => exact ⟨0, rfl, Nat.zero_le _, Nat.zero_le _, by show _ = _; simp, 0, rfl⟩
  case round =>
    obtain ⟨n, rfl, hn, hm, HA, HW⟩ := hrel
    by_cases hlt : n < t.length ∧ n < s.length
    · obtain ⟨h1, h2⟩ := hlt
      obtain ⟨c, hc⟩ : ∃ c, t[n]? = some c := ⟨t[n], List.getElem?_eq_getElem h1⟩
      obtain ⟨d, hd⟩ : ∃ d, s[n]? = some d := ⟨s[n], List.getElem?_eq_getElem h2⟩
      have x1 : ∀ w : World, (Instr.index 9 (.string ⟨t.toArray⟩) (.int .i64 n)).run Tryd.prog w = .ok (.int .u8 (c.toNat : Int)) w := fun w => idx_st t n c w hc
      have x2 : ∀ w : World, (Instr.index 9 (.string ⟨s.toArray⟩) (.int .i64 n)).run Tryd.prog w = .ok (.int .u8 (d.toNat : Int)) w := fun w => idx_st s n d w hd
      have g1 : (n : Int) < (t.length : Int) := by omega
      have g2 : (n : Int) < (s.length : Int) := by omega
      have HST := HA.out
      rw [alike_st hc hd] at HST
      by_cases hcd : c = d
      · subst hcd
        rw [if_pos rfl] at HST
        have HAL : Hid (n + 1 + alikeN (t.drop (n + 1)) (s.drop (n + 1)) = alikeN t s) := by show _ = _; omega
        clear HST hc hd HA
        obtain ⟨M, HM, hM⟩ : ∃ M : Nat, Hid (M = min s.length t.length) ∧ ((n : Int) < (M : Int)) := ⟨min s.length t.length, rfl, by omega⟩
        go_wp2_with fail
        have hS0 : (fun y : World => True) wr.drew := trivial
        refine wp_region_held (S := fun y : World => True) (by kernel_rfl) ?_
        change wpAnyH _ _ _ _ _ 16 _ _ wr.drew
        refine wpAnyH_take (i := 0) (v := .int .i64 n) rfl (by kernel_rfl) (by kernel_rfl) (by kernel_rfl) (fun _ _ _ h => h) (Or.inl ⟨by rfl, fun y hy => ?_⟩) hS0 ?_
        · go_simp
        refine wpAnyH_take (i := 1) (v := .string ⟨t.toArray⟩) rfl (by kernel_rfl) (by kernel_rfl) (by kernel_rfl) (fun _ _ _ h => h) (Or.inl ⟨by rfl, fun y hy => ?_⟩) hS0 ?_
        · go_simp
        refine wpAnyH_take (i := 2) (v := .int .i64 t.length) rfl (by kernel_rfl) (by kernel_rfl) (by kernel_rfl) (fun _ _ _ h => h) (Or.inl ⟨by rfl, fun y hy => ?_⟩) hS0 ?_
        · go_simp
        refine wpAnyH_take (i := 3) (v := .string ⟨s.toArray⟩) rfl (by kernel_rfl) (by kernel_rfl) (by kernel_rfl) (fun _ _ _ h => h) (Or.inl ⟨by rfl, fun y hy => ?_⟩) hS0 ?_
        · go_simp
        refine wpAnyH_take (i := 4) (v := .int .i64 s.length) rfl (by kernel_rfl) (by kernel_rfl) (by kernel_rfl) (fun _ _ _ h => h) (Or.inl ⟨by rfl, fun y hy => ?_⟩) hS0 ?_
        · go_simp
        refine wpAnyH_take (i := 5) (v := .int .i64 M) rfl (by kernel_rfl) (by kernel_rfl) (by kernel_rfl) (fun _ _ _ h => h) (Or.inl ⟨by rfl, fun y hy => ?_⟩) hS0 ?_
        · have hmm := HM.out; go_simp; split <;> omega
        refine wpAnyH_take (i := 6) (v := .bool true) rfl (by kernel_rfl) (by kernel_rfl) (by kernel_rfl) (fun _ _ _ h => h) (Or.inl ⟨by rfl, fun y hy => ?_⟩) hS0 ?_
        · go_simp
        refine wpAnyH_take (i := 7) (v := .bool true) rfl (by kernel_rfl) (by kernel_rfl) (by kernel_rfl) (fun _ _ _ h => h) (Or.inl ⟨by rfl, fun y hy => ?_⟩) hS0 ?_
        · go_simp
        refine wpAnyH_take (i := 8) (v := .string ⟨t.toArray⟩) rfl (by kernel_rfl) (by kernel_rfl) (by kernel_rfl) (fun _ _ _ h => h) (Or.inl ⟨by simp [Region.wanted, yielded, Act.put], fun y hy => ?_⟩) hS0 ?_
        · go_simp
        refine wpAnyH_take (i := 9) (v := .int .i64 n) rfl (by kernel_rfl) (by kernel_rfl) (by kernel_rfl) (fun _ _ _ h => h) (Or.inl ⟨by simp [Region.wanted, yielded, Act.put], fun y hy => ?_⟩) hS0 ?_
        · go_simp
        refine wpAnyH_take (i := 10) (v := .int .u8 (c.toNat : Int)) rfl (by kernel_rfl) (by kernel_rfl) (by kernel_rfl) (fun _ _ _ h => h) (Or.inl ⟨by simp [Region.wanted, yielded, Act.put], fun y hy => ?_⟩) hS0 ?_
        · go_simp
        refine wpAnyH_take (i := 11) (v := .string ⟨s.toArray⟩) rfl (by kernel_rfl) (by kernel_rfl) (by kernel_rfl) (fun _ _ _ h => h) (Or.inl ⟨by simp [Region.wanted, yielded, Act.put], fun y hy => ?_⟩) hS0 ?_
        · go_simp
        refine wpAnyH_take (i := 12) (v := .int .i64 n) rfl (by kernel_rfl) (by kernel_rfl) (by kernel_rfl) (fun _ _ _ h => h) (Or.inl ⟨by simp [Region.wanted, yielded, Act.put], fun y hy => ?_⟩) hS0 ?_
        · go_simp
        refine wpAnyH_take (i := 13) (v := .int .u8 (c.toNat : Int)) rfl (by kernel_rfl) (by kernel_rfl) (by kernel_rfl) (fun _ _ _ h => h) (Or.inl ⟨by simp [Region.wanted, yielded, Act.put], fun y hy => ?_⟩) hS0 ?_
        · go_simp
        refine wpAnyH_take (i := 14) (v := .bool true) rfl (by kernel_rfl) (by kernel_rfl) (by kernel_rfl) (fun _ _ _ h => h) (Or.inl ⟨by simp [Region.wanted, yielded, Act.put], fun y hy => ?_⟩) hS0 ?_
        · go_simp
        refine wpAnyH_sole (i := 15) rfl (by kernel_rfl) (fun K hK => ?_)
        go_simp
        refine hK _ _ hS0 ?_
        clear hK K
        refine wpAnyH_done (by kernel_rfl) ?_ _
        clear hS0 hM HM
        go_wp2
        go_roundw
        case rel => exact ⟨n + 1, by go_num, by omega, by omega, HAL.out, by obtain ⟨m, hm⟩ := HW.out; exact ⟨m + 1, by rw [hm]; rfl⟩⟩
        case measure => simp [intOf]; omega
      · have hne : ((c.toNat : Int) == (d.toNat : Int)) = false := by
          simp
          intro e
          exact hcd (UInt8.toNat_inj.1 (by omega))
        have hne' : (c.toNat == d.toNat) = false := by
          simp
          intro e
          exact hcd (UInt8.toNat_inj.1 (by omega))
        rw [if_neg hcd] at HST
        have HAL : Hid (alikeN t s = n) := HST.symm
        clear HST hc hd HA
        obtain ⟨M, HM, hM⟩ : ∃ M : Nat, Hid (M = min s.length t.length) ∧ ((n : Int) < (M : Int)) := ⟨min s.length t.length, rfl, by omega⟩
        go_wp2_with fail
        have hS0 : (fun y : World => True) wr.drew := trivial
        refine wp_region_held (S := fun y : World => True) (by kernel_rfl) ?_
        change wpAnyH _ _ _ _ _ 16 _ _ wr.drew
        refine wpAnyH_take (i := 0) (v := .int .i64 n) rfl (by kernel_rfl) (by kernel_rfl) (by kernel_rfl) (fun _ _ _ h => h) (Or.inl ⟨by rfl, fun y hy => ?_⟩) hS0 ?_
        · go_simp
        refine wpAnyH_take (i := 1) (v := .string ⟨t.toArray⟩) rfl (by kernel_rfl) (by kernel_rfl) (by kernel_rfl) (fun _ _ _ h => h) (Or.inl ⟨by rfl, fun y hy => ?_⟩) hS0 ?_
        · go_simp
        refine wpAnyH_take (i := 2) (v := .int .i64 t.length) rfl (by kernel_rfl) (by kernel_rfl) (by kernel_rfl) (fun _ _ _ h => h) (Or.inl ⟨by rfl, fun y hy => ?_⟩) hS0 ?_
        · go_simp
        refine wpAnyH_take (i := 3) (v := .string ⟨s.toArray⟩) rfl (by kernel_rfl) (by kernel_rfl) (by kernel_rfl) (fun _ _ _ h => h) (Or.inl ⟨by rfl, fun y hy => ?_⟩) hS0 ?_
        · go_simp
        refine wpAnyH_take (i := 4) (v := .int .i64 s.length) rfl (by kernel_rfl) (by kernel_rfl) (by kernel_rfl) (fun _ _ _ h => h) (Or.inl ⟨by rfl, fun y hy => ?_⟩) hS0 ?_
        · go_simp
        refine wpAnyH_take (i := 5) (v := .int .i64 M) rfl (by kernel_rfl) (by kernel_rfl) (by kernel_rfl) (fun _ _ _ h => h) (Or.inl ⟨by rfl, fun y hy => ?_⟩) hS0 ?_
        · have hmm := HM.out; go_simp; split <;> omega
        refine wpAnyH_take (i := 6) (v := .bool true) rfl (by kernel_rfl) (by kernel_rfl) (by kernel_rfl) (fun _ _ _ h => h) (Or.inl ⟨by rfl, fun y hy => ?_⟩) hS0 ?_
        · go_simp
        refine wpAnyH_take (i := 7) (v := .bool true) rfl (by kernel_rfl) (by kernel_rfl) (by kernel_rfl) (fun _ _ _ h => h) (Or.inl ⟨by rfl, fun y hy => ?_⟩) hS0 ?_
        · go_simp
        refine wpAnyH_take (i := 8) (v := .string ⟨t.toArray⟩) rfl (by kernel_rfl) (by kernel_rfl) (by kernel_rfl) (fun _ _ _ h => h) (Or.inl ⟨by simp [Region.wanted, yielded, Act.put], fun y hy => ?_⟩) hS0 ?_
        · go_simp
        refine wpAnyH_take (i := 9) (v := .int .i64 n) rfl (by kernel_rfl) (by kernel_rfl) (by kernel_rfl) (fun _ _ _ h => h) (Or.inl ⟨by simp [Region.wanted, yielded, Act.put], fun y hy => ?_⟩) hS0 ?_
        · go_simp
        refine wpAnyH_take (i := 10) (v := .int .u8 (c.toNat : Int)) rfl (by kernel_rfl) (by kernel_rfl) (by kernel_rfl) (fun _ _ _ h => h) (Or.inl ⟨by simp [Region.wanted, yielded, Act.put], fun y hy => ?_⟩) hS0 ?_
        · go_simp
        refine wpAnyH_take (i := 11) (v := .string ⟨s.toArray⟩) rfl (by kernel_rfl) (by kernel_rfl) (by kernel_rfl) (fun _ _ _ h => h) (Or.inl ⟨by simp [Region.wanted, yielded, Act.put], fun y hy => ?_⟩) hS0 ?_
        · go_simp
        refine wpAnyH_take (i := 12) (v := .int .i64 n) rfl (by kernel_rfl) (by kernel_rfl) (by kernel_rfl) (fun _ _ _ h => h) (Or.inl ⟨by simp [Region.wanted, yielded, Act.put], fun y hy => ?_⟩) hS0 ?_
        · go_simp
        refine wpAnyH_take (i := 13) (v := .int .u8 (d.toNat : Int)) rfl (by kernel_rfl) (by kernel_rfl) (by kernel_rfl) (fun _ _ _ h => h) (Or.inl ⟨by simp [Region.wanted, yielded, Act.put], fun y hy => ?_⟩) hS0 ?_
        · go_simp
        refine wpAnyH_take (i := 14) (v := .bool false) rfl (by kernel_rfl) (by kernel_rfl) (by kernel_rfl) (fun _ _ _ h => h) (Or.inl ⟨by simp [Region.wanted, yielded, Act.put], fun y hy => ?_⟩) hS0 ?_
        · go_simp
        refine wpAnyH_sole (i := 15) rfl (by kernel_rfl) (fun K hK => ?_)
        go_simp
        refine hK _ _ hS0 ?_
        clear hK K
        refine wpAnyH_done (by kernel_rfl) ?_ _
        clear hS0 hM HM
        go_wp2
        go_ret
        refine ⟨ret_int (by rw [HAL.out]), ?_⟩
        obtain ⟨m, hm⟩ := HW.out
        exact ⟨m + 1, by rw [hm]; rfl⟩
    · have HAL : Hid (alikeN t s = n) := by have := HA.out; rw [alike_no (by omega)] at this; exact this.symm
      obtain ⟨M, HM, hM⟩ : ∃ M : Nat, Hid (M = min s.length t.length) ∧ (¬ (n < M)) := ⟨min s.length t.length, rfl, by omega⟩
      have hle : decide ((n : Int) < (M : Int)) = false := by simp; omega
      have hle' : decide (n < M) = false := by simp; omega
      go_wp2_with fail
      have hS0 : (fun y : World => True) wr.drew := trivial
      refine wp_region_held (S := fun y : World => True) (by kernel_rfl) ?_
      change wpAnyH _ _ _ _ _ 16 _ _ wr.drew
      refine wpAnyH_take (i := 0) (v := .int .i64 n) rfl (by kernel_rfl) (by kernel_rfl) (by kernel_rfl) (fun _ _ _ h => h) (Or.inl ⟨by rfl, fun y hy => ?_⟩) hS0 ?_
      · go_simp
      refine wpAnyH_take (i := 1) (v := .string ⟨t.toArray⟩) rfl (by kernel_rfl) (by kernel_rfl) (by kernel_rfl) (fun _ _ _ h => h) (Or.inl ⟨by rfl, fun y hy => ?_⟩) hS0 ?_
      · go_simp
      refine wpAnyH_take (i := 2) (v := .int .i64 t.length) rfl (by kernel_rfl) (by kernel_rfl) (by kernel_rfl) (fun _ _ _ h => h) (Or.inl ⟨by rfl, fun y hy => ?_⟩) hS0 ?_
      · go_simp
      refine wpAnyH_take (i := 3) (v := .string ⟨s.toArray⟩) rfl (by kernel_rfl) (by kernel_rfl) (by kernel_rfl) (fun _ _ _ h => h) (Or.inl ⟨by rfl, fun y hy => ?_⟩) hS0 ?_
      · go_simp
      refine wpAnyH_take (i := 4) (v := .int .i64 s.length) rfl (by kernel_rfl) (by kernel_rfl) (by kernel_rfl) (fun _ _ _ h => h) (Or.inl ⟨by rfl, fun y hy => ?_⟩) hS0 ?_
      · go_simp
      refine wpAnyH_take (i := 5) (v := .int .i64 M) rfl (by kernel_rfl) (by kernel_rfl) (by kernel_rfl) (fun _ _ _ h => h) (Or.inl ⟨by rfl, fun y hy => ?_⟩) hS0 ?_
      · have hmm := HM.out; go_simp; split <;> omega
      refine wpAnyH_take (i := 6) (v := .bool false) rfl (by kernel_rfl) (by kernel_rfl) (by kernel_rfl) (fun _ _ _ h => h) (Or.inl ⟨by rfl, fun y hy => ?_⟩) hS0 ?_
      · go_simp
      refine wpAnyH_take (i := 7) (v := .bool false) rfl (by kernel_rfl) (by kernel_rfl) (by kernel_rfl) (fun _ _ _ h => h) (Or.inl ⟨by rfl, fun y hy => ?_⟩) hS0 ?_
      · go_simp
      refine wpAnyH_take (i := 8) (v := undef) rfl (by kernel_rfl) (by kernel_rfl) (by kernel_rfl) (fun _ _ _ h => h) (Or.inr ⟨by simp [Region.wanted, yielded, Act.put], rfl⟩) hS0 ?_
      refine wpAnyH_take (i := 9) (v := undef) rfl (by kernel_rfl) (by kernel_rfl) (by kernel_rfl) (fun _ _ _ h => h) (Or.inr ⟨by simp [Region.wanted, yielded, Act.put], rfl⟩) hS0 ?_
      refine wpAnyH_take (i := 10) (v := undef) rfl (by kernel_rfl) (by kernel_rfl) (by kernel_rfl) (fun _ _ _ h => h) (Or.inr ⟨by simp [Region.wanted, yielded, Act.put], rfl⟩) hS0 ?_
      refine wpAnyH_take (i := 11) (v := undef) rfl (by kernel_rfl) (by kernel_rfl) (by kernel_rfl) (fun _ _ _ h => h) (Or.inr ⟨by simp [Region.wanted, yielded, Act.put], rfl⟩) hS0 ?_
      refine wpAnyH_take (i := 12) (v := undef) rfl (by kernel_rfl) (by kernel_rfl) (by kernel_rfl) (fun _ _ _ h => h) (Or.inr ⟨by simp [Region.wanted, yielded, Act.put], rfl⟩) hS0 ?_
      refine wpAnyH_take (i := 13) (v := undef) rfl (by kernel_rfl) (by kernel_rfl) (by kernel_rfl) (fun _ _ _ h => h) (Or.inr ⟨by simp [Region.wanted, yielded, Act.put], rfl⟩) hS0 ?_
      refine wpAnyH_take (i := 14) (v := undef) rfl (by kernel_rfl) (by kernel_rfl) (by kernel_rfl) (fun _ _ _ h => h) (Or.inr ⟨by simp [Region.wanted, yielded, Act.put], rfl⟩) hS0 ?_
      refine wpAnyH_sole (i := 15) rfl (by kernel_rfl) (fun K hK => ?_)
      go_simp
      refine hK _ _ hS0 ?_
      clear hK K
      refine wpAnyH_done (by kernel_rfl) ?_ _
      clear hS0 hM HM
      go_wp2
      go_ret
      refine ⟨ret_int (by rw [HAL.out]), ?_⟩
      obtain ⟨m, hm⟩ := HW.out
      exact ⟨m + 1, by rw [hm]; rfl⟩

end Go.Proofs.YteodefmpkljedaaDoor
