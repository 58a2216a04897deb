/-
  The drawn wants: as plain mathematics; their walk.
-/
import Derived.Test.YteodefmpkljedaaDoorDrawProf2
namespace Go.Proofs.YteodefmpkljedaaDoor
open Go.RowKit
set_option linter.unusedVariables false
set_option linter.unusedSimpArgs false

def speedAt (i : Int) : Int := if i = 0 then -1 else if i = 1 then 0 else if i = 2 then 10000 else 10001
def Txt.speedVal (C : Txt) (c : Cur) : Int := if C.pickVal c 10 = 0 then speedAt (C.pickVal (C.pickCur c 10) 4) else if C.pickVal c 10 = 1 ∨ C.pickVal c 10 = 2 then C.wideVal (C.pickCur c 10) 10000 else C.pickVal (C.pickCur c 10) 200
def Txt.speedCur (C : Txt) (c : Cur) : Cur := if C.pickVal c 10 = 0 then C.pickCur (C.pickCur c 10) 4 else if C.pickVal c 10 = 1 ∨ C.pickVal c 10 = 2 then C.wideCur (C.pickCur c 10) else C.pickCur (C.pickCur c 10) 200
theorem Txt.speedVal_bounds {C : Txt} (h : C.Ok) {c : Cur} (h0 : 0 ≤ c.pos) : -1 ≤ C.speedVal c ∧ C.speedVal c ≤ 10001 := by
  have hp := C.pickCur_pos c 10
  unfold Txt.speedVal
  split
  · unfold speedAt; split
    · omega
    · split
      · omega
      · split <;> omega
  · split
    · have := Txt.wideVal_bounds (C := C) (c := C.pickCur c 10) (n := 10000) (by omega); omega
    · have := Txt.pickVal_bounds h (c := C.pickCur c 10) (by omega) (n := 200) (by omega); omega
theorem Txt.speedCur_pos (C : Txt) (c : Cur) : c.pos ≤ (C.speedCur c).pos ∧ (C.speedCur c).pos ≤ c.pos + 4 := by
  have hp := C.pickCur_pos c 10
  unfold Txt.speedCur
  split
  · have := C.pickCur_pos (C.pickCur c 10) 4; omega
  · split
    · have := C.wideCur_pos (C.pickCur c 10); omega
    · have := C.pickCur_pos (C.pickCur c 10) 200; omega

set_option maxHeartbeats 2000000 in
theorem speed_any (C : Txt) (hC : C.Ok) (a : Option Addr) (cap B : Nat) (c : Cur) (w : World) (hr : Reads w B a cap C c) (p0 : 0 ≤ c.pos) (p1 : c.pos ≤ 1000000000) :
    Calls Tryd.prog 26 #[.pointer (some ⟨B, 0, none⟩)] w fun e w' => e = .returned (.int .i64 (C.speedVal c)) ∧ Reads w' B a cap C (C.speedCur c) ∧ w.grownBy w' (some B) := by
  have HR : Hid (Reads w B a cap C c) := hr
  have HC : Hid C.Ok := hC
  clear hr hC
  obtain ⟨q0, q1⟩ := C.pickCur_pos c 10
  obtain ⟨v0, v1⟩ := Txt.pickVal_bounds HC.out p0 (n := 10) (by omega)
  go_enter Tryd.func26, Tryd.ntmps26
  go_wp2_with fail
  refine (pick_any C HC.out a cap B c 10 _ HR.out p0 (by omega)).mono ?_
  rintro e w1 ⟨rfl, hr1, hg1⟩
  have H1 : Hid (Reads w1 B a cap C (C.pickCur c 10) ∧ w.grownBy w1 (some B)) := ⟨hr1, hg1⟩
  have hB := hr1.lt
  clear hr1 hg1
  by_cases h0 : C.pickVal c 10 = 0
  · have HV : Hid (C.speedVal c = speedAt (C.pickVal (C.pickCur c 10) 4)) := if_pos h0
    have HD : Hid (C.speedCur c = C.pickCur (C.pickCur c 10) 4) := if_pos h0
    rw [h0]
    go_wp2_with fail
    refine (pick_any C HC.out a cap B _ 4 _ (H1.out.1.grown (World.grownBy_alloc _ _ none) (fun j e => by cases e)) (by omega) (by omega)).mono ?_
    rintro e w2 ⟨rfl, hr2, hg2⟩
    obtain ⟨y0, y1⟩ := Txt.pickVal_bounds HC.out (c := C.pickCur c 10) (by omega) (n := 4) (by omega)
    have H2 : Hid (Reads w2 B a cap C (C.pickCur (C.pickCur c 10) 4) ∧ w.grownBy w2 (some B)) := ⟨hr2, grown_tr (grown_tr H1.out.2 (World.grownBy_alloc _ _ _)) hg2⟩
    have k0 : w2.cell? ⟨w1.heap.size, 0, none⟩ = some (.int .i64 (-1)) := hg2.cell (a := ⟨w1.heap.size, 0, none⟩) (by go_simp) (fun e => by have h2 : w1.heap.size = B := Option.some.inj e; omega)
    have k1 : w2.cell? ⟨w1.heap.size, 1, none⟩ = some (.int .i64 0) := hg2.cell (a := ⟨w1.heap.size, 1, none⟩) (by go_simp) (fun e => by have h2 : w1.heap.size = B := Option.some.inj e; omega)
    have k2 : w2.cell? ⟨w1.heap.size, 2, none⟩ = some (.int .i64 10000) := hg2.cell (a := ⟨w1.heap.size, 2, none⟩) (by go_simp) (fun e => by have h2 : w1.heap.size = B := Option.some.inj e; omega)
    have k3 : w2.cell? ⟨w1.heap.size, 3, none⟩ = some (.int .i64 10001) := hg2.cell (a := ⟨w1.heap.size, 3, none⟩) (by go_simp) (fun e => by have h2 : w1.heap.size = B := Option.some.inj e; omega)
    clear hr2 hg2 H1
    have h4 : C.pickVal (C.pickCur c 10) 4 = 0 ∨ C.pickVal (C.pickCur c 10) 4 = 1 ∨ C.pickVal (C.pickCur c 10) 4 = 2 ∨ C.pickVal (C.pickCur c 10) 4 = 3 := by omega
    rcases h4 with h4 | h4 | h4 | h4
    all_goals
      have HV2 := HV.out
      rw [h4] at HV2 ⊢
      have HV3 : Hid (C.speedVal c = _) := HV2
      clear HV2 y0 y1 h4
      go_wp2
      go_ret
      refine ⟨ret_int ?_, by rw [HD.out]; exact H2.out.1, H2.out.2⟩
      rw [HV3.out]; rfl
  · by_cases h1 : C.pickVal c 10 = 1 ∨ C.pickVal c 10 = 2
    · have HV : Hid (C.speedVal c = C.wideVal (C.pickCur c 10) 10000) := (if_neg h0).trans (if_pos h1)
      have HD : Hid (C.speedCur c = C.wideCur (C.pickCur c 10)) := (if_neg h0).trans (if_pos h1)
      rcases h1 with h1 | h1
      all_goals
        rw [h1]
        go_wp2_with fail
        refine (wide_any C HC.out a cap B _ 10000 _ H1.out.1 (by omega) (by omega) (by omega)).mono ?_
        rintro e w2 ⟨rfl, hr2, hg2⟩
        have H2 : Hid (Reads w2 B a cap C (C.wideCur (C.pickCur c 10)) ∧ w.grownBy w2 (some B)) := ⟨hr2, grown_tr H1.out.2 hg2⟩
        clear hr2 hg2
        go_wp2
        go_ret
        exact ⟨ret_int HV.out.symm, by rw [HD.out]; exact H2.out.1, H2.out.2⟩
    · have HV : Hid (C.speedVal c = C.pickVal (C.pickCur c 10) 200) := (if_neg h0).trans (if_neg h1)
      have HD : Hid (C.speedCur c = C.pickCur (C.pickCur c 10) 200) := (if_neg h0).trans (if_neg h1)
      have g0 : (C.pickVal c 10 == 0) = false := by simpa using h0
      have g1 : (C.pickVal c 10 == 1) = false := by simp; omega
      have g2 : (C.pickVal c 10 == 2) = false := by simp; omega
      clear h0 h1
      go_wp2_with fail
      refine (pick_any C HC.out a cap B _ 200 _ H1.out.1 (by omega) (by omega)).mono ?_
      rintro e w2 ⟨rfl, hr2, hg2⟩
      have H2 : Hid (Reads w2 B a cap C (C.pickCur (C.pickCur c 10) 200) ∧ w.grownBy w2 (some B)) := ⟨hr2, grown_tr H1.out.2 hg2⟩
      clear hr2 hg2
      go_wp2
      go_ret
      exact ⟨ret_int HV.out.symm, by rw [HD.out]; exact H2.out.1, H2.out.2⟩

end Go.Proofs.YteodefmpkljedaaDoor
