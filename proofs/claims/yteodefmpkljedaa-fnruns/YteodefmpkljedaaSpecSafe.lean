/-
  The models of chapter 3: what is safe, the greatest speed.
-/
import Derived.Test.YteodefmpkljedaaSpecAt
import Derived.Test.YteodefmpkljedaaSafe
namespace Go.Proofs.Yteodefmpkljedaa
open Go.RowKit Go.Sort
set_option linter.unusedVariables false

theorem ret_boolB {a b : Bool} (h : a = b) : Ending.returned (.bool a) = .returned (.bool b) := by rw [h]

set_option maxHeartbeats 2000000 in
theorem l3may_any (P : Prof) (v : Value) (x u : Int) (w : World) (hl : P.Lies w v) (hok : P.Ok) (hx0 : 0 ≤ x) (hx1 : x ≤ 1000000000) (hu0 : 0 ≤ u) (hu1 : u ≤ 10000) :
    Calls Try.prog 87 #[v, .int .i64 x, .int .i64 u] w fun e w' => e = .returned (.bool (P.may x u)) ∧ Below w.heap.size w w' := by
  have HV : Hid (P.Lies w v) := hl
  have HOK : Hid P.Ok := hok
  obtain ⟨ap, cp, az, cz, rfl, hn, hn', hr2, hr3⟩ := hl
  clear hr2 hr3 hok
  by_cases c : u = 0
  · subst c
    have HE : Hid (P.may x 0 = decide (x ≤ P.fin)) := by show _ = _; unfold Prof.may; rw [if_pos rfl]
    go_enter Try.func87, Try.ntmps87
    go_wp2
    go_ret
    exact ⟨ret_boolB HE.out.symm, (Below.refl _ _).alloc (Nat.le_refl _) _⟩
  · have c' : (u == 0) = false := by simpa using c
    by_cases d : x + u ≤ P.fin
    · have HE : Hid (P.may x u = decide (u ≤ P.over x (x + u))) := by show _ = _; unfold Prof.may; rw [if_neg c]; simp [d]
      go_enter Try.func87, Try.ntmps87
      go_wp2_with fail
      refine (l2over_any P _ x (x + u) _ (HV.out.below ((Below.refl _ _).alloc (Nat.le_refl _) _)) HOK.out).mono ?_
      rintro e w1 ⟨rfl, hb1⟩
      go_wp2
      go_ret
      exact ⟨ret_boolB (by rw [HE.out]), ((Below.refl _ _).alloc (Nat.le_refl _) _).trans (hb1.mono (by simp))⟩
    · have d' : decide (x + u ≤ P.fin) = false := by simpa using d
      have HE : Hid (P.may x u = false) := by show _ = _; unfold Prof.may; rw [if_neg c]; simp [d]
      go_enter Try.func87, Try.ntmps87
      go_wp2
      go_ret
      exact ⟨ret_boolB HE.out.symm, (Below.refl _ _).alloc (Nat.le_refl _) _⟩

set_option maxHeartbeats 4000000 in
theorem l3safe_any (P : Prof) (v : Value) (x u : Int) (w : World) (hl : P.Lies w v) (hok : P.Ok) (hx0 : 0 ≤ x) (hx1 : x ≤ 100000000) (hu0 : 0 ≤ u) (hu1 : u ≤ 10000) :
    Calls Try.prog 51 #[v, .int .i64 x, .int .i64 u] w fun e w' => e = .returned (.bool (P.safe 0 x u)) ∧ Below w.heap.size w w' := by
  have HV : Hid (P.Lies w v) := hl
  have HOK : Hid P.Ok := hok
  have h1 := hok.counts.1
  obtain ⟨d0, d1⟩ := hok.delay
  have hfin := hok.fin.2
  have htot := (Prof.total_bounds hok.lens).2
  obtain ⟨ap, cp, az, cz, rfl, hn, hn', hr2, hr3⟩ := hl
  clear hr2 hr3 hok
  go_enter Try.func51, Try.ntmps51
  go_wp2
  go_loopw [1, 2, 7] (fun sx sv sn wr => ∃ y z n : Int, sx = .int .i64 y ∧ sv = .int .i64 z ∧ sn = .int .i64 n ∧ 0 ≤ y ∧ y ≤ 100000000 ∧ 0 ≤ z ∧ z ≤ 10000 ∧ 0 ≤ n ∧ n + z ≤ P.delay + 10000 ∧ Hid (P.safe n y z = P.safe 0 x u) ∧ Hid (P.BoxAt wr w.heap.size ap az cp cz) ∧ Below w.heap.size w wr) (fun _ sv sn _ => P.fuel (intOf sn) (intOf sv))
  case atStart =>
    refine ⟨x, u, 0, rfl, rfl, rfl, hx0, hx1, hu0, hu1, by omega, by omega, rfl, ?_, (Below.refl _ _).alloc (Nat.le_refl _) _⟩
    show Prof.BoxAt _ _ _ _ _ _ _
    refine ⟨?_, ?_, ?_, ?_, ?_⟩ <;> go_simp
  case round =>
    obtain ⟨y, z, n, rfl, rfl, rfl, hy0, hy1, hz0, hz1, hn0, hn1, HE, HBX, hbel⟩ := hrel
    have hboxr := HBX.out
    obtain ⟨x0, x1, x2, x3, x4⟩ := hboxr
    go_wp2_with fail
    refine (l3may_any P _ y z _ (HV.out.below hbel) HOK.out hy0 (by omega) hz0 hz1).mono ?_
    rintro e w2 ⟨rfl, hb2⟩
    have b2 := hbel.trans (hb2.mono hbel.size)
    have HB2 : Hid (P.BoxAt w2 w.heap.size ap az cp cz) := HBX.out.below hb2
    clear x0 x1 x2 x3 x4 hb2 HBX
    by_cases hm : P.may y z = true
    · rw [hm]
      have hend := Prof.may_end hm
      by_cases hz : z = 0
      · subst hz
        have HF : Hid (P.safe 0 x u = true) := by show _ = _; rw [← HE.out]; exact Prof.safe_stand hm
        clear hm
        go_wp2
        go_ret
        exact ⟨ret_boolB HF.out.symm, b2⟩
      · have hz' : (z == 0) = false := by simpa using hz
        have hr := HOK.out.rate y
        obtain ⟨hr0, hr1⟩ := hr
        have HF : Hid (P.safe (n + 1) (y + z) (P.next n y z) = P.safe 0 x u) := by show _ = _; rw [← HE.out]; exact (Prof.safe_go HOK.out.rates hm (by omega)).symm
        have HM : Hid (P.fuel (n + 1) (P.next n y z) < P.fuel n z) := Prof.fuel_next HOK.out.rates (by omega)
        have hboxr := HB2.out
        obtain ⟨x0, x1, x2, x3, x4⟩ := hboxr
        clear hm
        go_wp2_with fail
        refine (l2rate_any P _ y _ (HV.out.below b2) HOK.out.lens h1).mono ?_
        rintro e w3 ⟨rfl, hb3⟩
        have b3 := b2.trans (hb3.mono b2.size)
        have HB3 : Hid (P.BoxAt w3 w.heap.size ap az cp cz) := HB2.out.below hb3
        clear x0 x1 x2 x3 x4 hb3 HB2
        have hboxr := HB3.out
        obtain ⟨x0, x1, x2, x3, x4⟩ := hboxr
        by_cases hd : P.delay ≤ n
        · have hls := less_lt (v := z) (b := P.rate y) (by omega) (by omega)
          obtain ⟨hl0, hl1⟩ := less_bounds (v := z) (b := P.rate y) (by omega) (by omega)
          have HN : Hid (P.next n y z = less z (P.rate y)) := by show _ = _; unfold Prof.next; rw [if_pos hd]
          go_wp2_with (go_at_call 52; refine (l2less_any _ _ _ (by omega) (by omega) (by omega) (by omega)).mono ?_; rintro e w4 ⟨rfl, rfl⟩)
          go_roundw
          case rel => exact ⟨y + z, less z (P.rate y), n + 1, by go_num, rfl, by go_num, by omega, by omega, by omega, by omega, by omega, by omega, by rw [← HN.out]; exact HF.out, HB3.out, b3⟩
          case measure => have := HM.out; rw [HN.out] at this; simpa [intOf] using this
        · have HN : Hid (P.next n y z = z) := by show _ = _; unfold Prof.next; rw [if_neg hd]
          go_wp2
          go_roundw
          case rel => exact ⟨y + z, z, n + 1, by go_num, rfl, by go_num, by omega, by omega, by omega, by omega, by omega, by omega, by have := HF.out; rw [HN.out] at this; exact this, HB3.out, b3⟩
          case measure => have := HM.out; rw [HN.out] at this; simpa [intOf] using this
    · have hm' : P.may y z = false := by simpa using hm
      rw [hm']
      have HF : Hid (P.safe 0 x u = false) := by show _ = _; rw [← HE.out]; exact Prof.safe_no hm'
      clear hm hm'
      go_wp2
      go_ret
      exact ⟨ret_boolB HF.out.symm, b2⟩

end Go.Proofs.Yteodefmpkljedaa
