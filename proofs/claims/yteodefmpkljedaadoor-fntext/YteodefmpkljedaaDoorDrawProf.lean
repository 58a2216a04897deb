/-
  The drawn profile: as plain mathematics; it is right; its walk.
-/
import Derived.Test.YteodefmpkljedaaDoorDraw
import Derived.Test.YteodefmpkljedaaDoorGrow
namespace Go.Proofs.YteodefmpkljedaaDoor
open Go.RowKit
set_option linter.unusedVariables false

def Txt.pcur (C : Txt) (c : Cur) : Nat → Cur
  | 0 => c
  | k + 1 => C.pickCur (C.wideCur (C.pcur c k)) 20
def Txt.plen (C : Txt) (s : Int) (c : Cur) (k : Nat) : Int := 1 + C.wideVal (C.pcur c k) (80 * s)
def Txt.pbrake (C : Txt) (c : Cur) (k : Nat) : Int := 10 + C.pickVal (C.wideCur (C.pcur c k)) 20
theorem Txt.pcur_pos (C : Txt) (c : Cur) : ∀ k, c.pos ≤ (C.pcur c k).pos ∧ (C.pcur c k).pos ≤ c.pos + 4 * k
  | 0 => by unfold Txt.pcur; omega
  | k + 1 => by
    have ih := C.pcur_pos c k
    unfold Txt.pcur
    have h1 := C.pickCur_pos (C.wideCur (C.pcur c k)) 20
    have h2 := C.wideCur_pos (C.pcur c k)
    omega
def Txt.zcur (C : Txt) (c : Cur) : Nat → Cur
  | 0 => c
  | k + 1 => C.wideCur (C.wideCur (C.wideCur (C.zcur c k)))
theorem Txt.zcur_pos (C : Txt) (c : Cur) : ∀ k, (C.zcur c k).pos = c.pos + 6 * k
  | 0 => by unfold Txt.zcur; omega
  | k + 1 => by
    have ih := C.zcur_pos c k
    unfold Txt.zcur
    rw [C.wideCur_pos, C.wideCur_pos, C.wideCur_pos, ih]; omega
def Txt.zfrom (C : Txt) (tot : Int) (c : Cur) (k : Nat) : Int := C.wideVal (C.zcur c k) (tot + 1)
def Txt.zto (C : Txt) (tot : Int) (c : Cur) (k : Nat) : Int := C.zfrom tot c k + C.wideVal (C.wideCur (C.zcur c k)) (tot - C.zfrom tot c k + 1)
def Txt.zspeed (C : Txt) (s : Int) (c : Cur) (k : Nat) : Int := 1 + C.wideVal (C.wideCur (C.wideCur (C.zcur c k))) (12 * s)

/-- The cursors between the parts. -/
def Txt.c0 (C : Txt) (c : Cur) : Cur := C.pickCur c 5
def Txt.np (C : Txt) (c : Cur) : Nat := (1 + C.pickVal c 5).toNat
def Txt.c1 (C : Txt) (c : Cur) : Cur := C.pcur (C.c0 c) (C.np c)
def Txt.tot (C : Txt) (s : Int) (c : Cur) : Int := sumTo (C.plen s (C.c0 c)) (C.np c)
def Txt.c2 (C : Txt) (c : Cur) : Cur := C.pickCur (C.c1 c) 5
def Txt.nz (C : Txt) (c : Cur) : Nat := (C.pickVal (C.c1 c) 5).toNat
def Txt.c3 (C : Txt) (c : Cur) : Cur := C.zcur (C.c2 c) (C.nz c)
def Txt.c4 (C : Txt) (c : Cur) : Cur := C.wideCur (C.c3 c)
def Txt.c5 (C : Txt) (c : Cur) : Cur := C.wideCur (C.c4 c)
def Txt.c6 (C : Txt) (c : Cur) : Cur := C.pickCur (C.c5 c) 2
def Txt.c7 (C : Txt) (c : Cur) : Cur := C.pickCur (C.c6 c) 4
def Txt.back (C : Txt) (s : Int) (c : Cur) : Int := C.wideVal (C.c4 c) (C.tot s c + 1) * C.pickVal (C.c5 c) 2 / 2
/-- The drawn profile. -/
def Txt.prof (C : Txt) (s : Int) (c : Cur) : Prof where
  np := C.np c
  L := C.plen s (C.c0 c)
  B := C.pbrake (C.c0 c)
  nz := C.nz c
  F := C.zfrom (C.tot s c) (C.c2 c)
  T := C.zto (C.tot s c) (C.c2 c)
  S := C.zspeed s (C.c2 c)
  train := C.wideVal (C.c3 c) (30 * s)
  fin := C.tot s c - C.back s c
  delay := C.pickVal (C.c6 c) 4

theorem Txt.np_bounds {C : Txt} (h : C.Ok) {c : Cur} (h0 : 0 ≤ c.pos) : 1 ≤ C.np c ∧ C.np c ≤ 5 ∧ ((C.np c : Nat) : Int) = 1 + C.pickVal c 5 := by
  have := Txt.pickVal_bounds h h0 (n := 5) (by omega)
  unfold Txt.np
  omega
theorem Txt.c0_pos (C : Txt) (c : Cur) : c.pos ≤ (C.c0 c).pos ∧ (C.c0 c).pos ≤ c.pos + 2 := C.pickCur_pos c 5
theorem Txt.c1_pos {C : Txt} (h : C.Ok) {c : Cur} (h0 : 0 ≤ c.pos) : c.pos ≤ (C.c1 c).pos ∧ (C.c1 c).pos ≤ c.pos + 22 := by
  have h1 := C.pcur_pos (C.c0 c) (C.np c)
  have h2 := C.c0_pos c
  have h3 := Txt.np_bounds h h0
  unfold Txt.c1
  omega
theorem Txt.c2_pos {C : Txt} (h : C.Ok) {c : Cur} (h0 : 0 ≤ c.pos) : c.pos ≤ (C.c2 c).pos ∧ (C.c2 c).pos ≤ c.pos + 24 := by
  have h1 := C.pickCur_pos (C.c1 c) 5
  have h2 := Txt.c1_pos h h0
  unfold Txt.c2
  omega
theorem Txt.nz_bounds {C : Txt} (h : C.Ok) {c : Cur} (h0 : 0 ≤ c.pos) : C.nz c ≤ 4 ∧ ((C.nz c : Nat) : Int) = C.pickVal (C.c1 c) 5 := by
  have h2 := Txt.c1_pos h h0
  have := Txt.pickVal_bounds h (c := C.c1 c) (by omega) (n := 5) (by omega)
  unfold Txt.nz
  omega
theorem Txt.c3_pos {C : Txt} (h : C.Ok) {c : Cur} (h0 : 0 ≤ c.pos) : c.pos ≤ (C.c3 c).pos ∧ (C.c3 c).pos ≤ c.pos + 48 := by
  have h1 := C.zcur_pos (C.c2 c) (C.nz c)
  have h2 := Txt.c2_pos h h0
  have h3 := Txt.nz_bounds h h0
  unfold Txt.c3
  omega
theorem Txt.c4_pos {C : Txt} (h : C.Ok) {c : Cur} (h0 : 0 ≤ c.pos) : c.pos ≤ (C.c4 c).pos ∧ (C.c4 c).pos ≤ c.pos + 50 := by
  have h1 := C.wideCur_pos (C.c3 c)
  have h2 := Txt.c3_pos h h0
  unfold Txt.c4
  omega
theorem Txt.c5_pos {C : Txt} (h : C.Ok) {c : Cur} (h0 : 0 ≤ c.pos) : c.pos ≤ (C.c5 c).pos ∧ (C.c5 c).pos ≤ c.pos + 52 := by
  have h1 := C.wideCur_pos (C.c4 c)
  have h2 := Txt.c4_pos h h0
  unfold Txt.c5
  omega
theorem Txt.c6_pos {C : Txt} (h : C.Ok) {c : Cur} (h0 : 0 ≤ c.pos) : c.pos ≤ (C.c6 c).pos ∧ (C.c6 c).pos ≤ c.pos + 54 := by
  have h1 := C.pickCur_pos (C.c5 c) 2
  have h2 := Txt.c5_pos h h0
  unfold Txt.c6
  omega
theorem Txt.c7_pos {C : Txt} (h : C.Ok) {c : Cur} (h0 : 0 ≤ c.pos) : c.pos ≤ (C.c7 c).pos ∧ (C.c7 c).pos ≤ c.pos + 56 := by
  have h1 := C.pickCur_pos (C.c6 c) 4
  have h2 := Txt.c6_pos h h0
  unfold Txt.c7
  omega
theorem Txt.plen_bounds {C : Txt} {s : Int} (hs : 1 ≤ s) (c : Cur) (k : Nat) : 1 ≤ C.plen s c k ∧ C.plen s c k ≤ 80 * s := by
  have := Txt.wideVal_bounds (C := C) (c := C.pcur c k) (n := 80 * s) (by omega)
  unfold Txt.plen
  omega
theorem Txt.pbrake_bounds {C : Txt} (h : C.Ok) {c : Cur} (h0 : 0 ≤ c.pos) (k : Nat) : 10 ≤ C.pbrake c k ∧ C.pbrake c k ≤ 29 := by
  have h1 := C.pcur_pos c k
  have h2 := C.wideCur_pos (C.pcur c k)
  have := Txt.pickVal_bounds h (c := C.wideCur (C.pcur c k)) (by omega) (n := 20) (by omega)
  unfold Txt.pbrake
  omega
theorem sumTo_in {L : Nat → Int} {m : Int} (h : ∀ j, 1 ≤ L j ∧ L j ≤ m) : ∀ k : Nat, (k : Int) ≤ sumTo L k ∧ sumTo L k ≤ m * k
  | 0 => by simp [sumTo]
  | k + 1 => by
    have ih := sumTo_in h k
    have hj := h k
    simp only [sumTo]
    have : m * ((k + 1 : Nat) : Int) = m * k + m := by rw [show ((k + 1 : Nat) : Int) = (k : Int) + 1 by omega, Int.mul_add]; omega
    omega
theorem Txt.tot_bounds {C : Txt} (h : C.Ok) {s : Int} (hs : 1 ≤ s) (hs' : s ≤ 100) {c : Cur} (h0 : 0 ≤ c.pos) : 1 ≤ C.tot s c ∧ C.tot s c ≤ 40000 := by
  obtain ⟨n1, n2, _⟩ := Txt.np_bounds h h0
  have := sumTo_in (m := 8000) (fun j => by have := C.plen_bounds hs (C.c0 c) j; omega : ∀ j, 1 ≤ C.plen s (C.c0 c) j ∧ C.plen s (C.c0 c) j ≤ 8000) (C.np c)
  unfold Txt.tot
  omega
theorem Txt.zfrom_bounds {C : Txt} {tot : Int} (ht : 0 ≤ tot) (c : Cur) (k : Nat) : 0 ≤ C.zfrom tot c k ∧ C.zfrom tot c k ≤ tot := by
  have := Txt.wideVal_bounds (C := C) (c := C.zcur c k) (n := tot + 1) (by omega)
  unfold Txt.zfrom
  omega
theorem Txt.zto_bounds {C : Txt} {tot : Int} (ht : 0 ≤ tot) (c : Cur) (k : Nat) : C.zfrom tot c k ≤ C.zto tot c k ∧ C.zto tot c k ≤ tot := by
  have h1 := C.zfrom_bounds ht c k
  have := Txt.wideVal_bounds (C := C) (c := C.wideCur (C.zcur c k)) (n := tot - C.zfrom tot c k + 1) (by omega)
  unfold Txt.zto
  omega
theorem Txt.zspeed_bounds {C : Txt} {s : Int} (hs : 1 ≤ s) (hs' : s ≤ 100) (c : Cur) (k : Nat) : 1 ≤ C.zspeed s c k ∧ C.zspeed s c k ≤ 1200 := by
  have := Txt.wideVal_bounds (C := C) (c := C.wideCur (C.wideCur (C.zcur c k))) (n := 12 * s) (by omega)
  unfold Txt.zspeed
  omega
theorem Txt.back_bounds {C : Txt} (h : C.Ok) {s : Int} (hs : 1 ≤ s) (hs' : s ≤ 100) {c : Cur} (h0 : 0 ≤ c.pos) : 0 ≤ C.back s c ∧ C.back s c ≤ C.tot s c := by
  have ht := Txt.tot_bounds h hs hs' h0
  have h1 := Txt.wideVal_bounds (C := C) (c := C.c4 c) (n := C.tot s c + 1) (by omega)
  have h5 := Txt.c5_pos h h0
  have h2 := Txt.pickVal_bounds h (c := C.c5 c) (by omega) (n := 2) (by omega)
  have h3 : C.pickVal (C.c5 c) 2 = 0 ∨ C.pickVal (C.c5 c) 2 = 1 := by omega
  unfold Txt.back
  rcases h3 with h3 | h3
  · rw [h3, Int.mul_zero]; omega
  · rw [h3, Int.mul_one]; omega
/-- It is right. -/
theorem Txt.prof_ok {C : Txt} (h : C.Ok) {s : Int} (hs : 1 ≤ s) (hs' : s ≤ 100) {c : Cur} (h0 : 0 ≤ c.pos) : (C.prof s c).Ok := by
  obtain ⟨n1, n2, _⟩ := Txt.np_bounds h h0
  obtain ⟨z1, _⟩ := Txt.nz_bounds h h0
  obtain ⟨t1, t2⟩ := Txt.tot_bounds h hs hs' h0
  obtain ⟨b1, b2⟩ := Txt.back_bounds h hs hs' h0
  have e0 := C.c0_pos c
  have e3 := Txt.c3_pos h h0
  have e6 := Txt.c6_pos h h0
  have htot : (C.prof s c).total = C.tot s c := rfl
  refine ⟨⟨n1, by show C.np c ≤ 60; omega, by show C.nz c ≤ 60; omega⟩, fun j hj => ⟨?_, ?_⟩, fun j hj => ⟨?_, ?_, ?_⟩, ?_, ?_, ?_⟩
  · have := C.plen_bounds hs (C.c0 c) j
    show 1 ≤ C.plen s (C.c0 c) j ∧ C.plen s (C.c0 c) j ≤ 1666666
    omega
  · have := Txt.pbrake_bounds h (c := C.c0 c) (by omega) j
    show 10 ≤ C.pbrake (C.c0 c) j ∧ C.pbrake (C.c0 c) j ≤ 1000
    omega
  · rw [htot]; exact C.zfrom_bounds (by omega) (C.c2 c) j
  · rw [htot]; exact C.zto_bounds (by omega) (C.c2 c) j
  · have := C.zspeed_bounds hs hs' (C.c2 c) j
    show 1 ≤ C.zspeed s (C.c2 c) j ∧ C.zspeed s (C.c2 c) j ≤ 10000
    omega
  · have := Txt.wideVal_bounds (C := C) (c := C.c3 c) (n := 30 * s) (by omega)
    show 0 ≤ C.wideVal (C.c3 c) (30 * s) ∧ C.wideVal (C.c3 c) (30 * s) ≤ 100000000
    omega
  · rw [htot]
    show 0 ≤ C.tot s c - C.back s c ∧ C.tot s c - C.back s c ≤ C.tot s c
    omega
  · have := Txt.pickVal_bounds h (c := C.c6 c) (by omega) (n := 4) (by omega)
    show 0 ≤ C.pickVal (C.c6 c) 4 ∧ C.pickVal (C.c6 c) 4 ≤ 20
    omega

end Go.Proofs.YteodefmpkljedaaDoor
