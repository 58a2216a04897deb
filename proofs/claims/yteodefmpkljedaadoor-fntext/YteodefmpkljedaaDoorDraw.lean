/-
  The draws of the laws: choices read from bytes, as plain mathematics and as they are walked.
-/
import Derived.Test.YteodefmpkljedaaDoorProg
import Derived.Test.YteodefmpkljedaaDoorSpecSlow
import Derived.WalkKit
import Derived.KernelRfl
import Derived.BigQuiet
import Derived.Deep.QuietTactic
import Derived.Deep.OwnRows
import Derived.Laws.Bits64b
import Derived.Deep.Heap
import Derived.Test.YteodefmpkljedaaDoorGrow
namespace Go.Proofs.YteodefmpkljedaaDoor
open Go.RowKit
set_option linter.unusedVariables false

/-- Bytes. -/
structure Txt where
  len : Nat
  b : Nat → Int
def Txt.Ok (C : Txt) : Prop := C.len ≤ 1048576 ∧ ∀ j, j < C.len → 0 ≤ C.b j ∧ C.b j ≤ 255
/-- How far the choices have been read. -/
structure Cur where
  pos : Int
  seed : Int
def turned (s : Int) : Int := IntKind.u64.wrap (IntKind.u64.wrap (s * 6364136223846793005) + 1442695040888963407)
def turnedBy (s b : Int) : Int := IntKind.u64.wrap (IntKind.u64.wrap (IntKind.u64.wrap (s * 6364136223846793005) + b) + 1442695040888963407)
def farVal (s : Int) : Int := wrap64 (bits BinOp.and IntKind.u64 (s / 1099511627776) 255)
theorem turned_bounds (s : Int) : 0 ≤ turned s ∧ turned s < 18446744073709551616 := by
  unfold turned
  rw [IntKind.wrap_u64]
  omega
theorem farVal_bounds (s : Int) (h0 : 0 ≤ s) (h1 : s < 18446744073709551616) : 0 ≤ farVal s ∧ farVal s ≤ 255 := by
  unfold farVal
  obtain ⟨n, hn⟩ : ∃ n : Nat, s / 1099511627776 = n := ⟨(s / 1099511627776).toNat, by omega⟩
  rw [hn, show (255 : Int) = ((255 : Nat) : Int) from rfl, bits_and_u64_nat n 255 (by omega) (by omega)]
  have h2 : n &&& 255 ≤ 255 := Nat.and_le_right
  unfold wrap64
  omega
def Txt.nextVal (C : Txt) (c : Cur) : Int := if c.pos < C.len then C.b c.pos.toNat else farVal (turned c.seed)
def Txt.nextCur (C : Txt) (c : Cur) : Cur := if c.pos < C.len then ⟨c.pos + 1, turnedBy c.seed (C.b c.pos.toNat)⟩ else ⟨c.pos + 1, turned c.seed⟩
theorem Txt.nextVal_bounds {C : Txt} (h : C.Ok) {c : Cur} (h0 : 0 ≤ c.pos) : 0 ≤ C.nextVal c ∧ C.nextVal c ≤ 255 := by
  unfold Txt.nextVal
  split
  · exact h.2 _ (by omega)
  · exact farVal_bounds _ (turned_bounds _).1 (turned_bounds _).2
theorem Txt.nextCur_pos (C : Txt) (c : Cur) : (C.nextCur c).pos = c.pos + 1 := by unfold Txt.nextCur; split <;> rfl

def curCells (a : Option Addr) (n cap : Nat) (c : Cur) (i : Nat) : Value := if i = 0 then .slice a n cap else if i = 1 then .int .i64 c.pos else .int .u64 c.seed
/-- The cursor lies in block B, the bytes in an elder one. -/
def Reads (w : World) (B : Nat) (a : Option Addr) (cap : Nat) (C : Txt) (c : Cur) : Prop :=
  w.rowIs B 40 3 (curCells a C.len cap c) ∧ (C.len = 0 ∨ ∃ b off, a = some ⟨b, off, none⟩ ∧ b < B ∧ ∀ j, j < C.len → w.cell? ⟨b, off + j, none⟩ = some (.int .u8 (C.b j)))
theorem Reads.lt {w : World} {B : Nat} {a : Option Addr} {cap : Nat} {C : Txt} {c : Cur} (h : Reads w B a cap C c) : B < w.heap.size := h.1.lt
theorem Reads.grown {w w1 : World} {row : Option Nat} {B : Nat} {a : Option Addr} {cap : Nat} {C : Txt} {c : Cur} (h : Reads w B a cap C c) (hg : w.grownBy w1 row) (hr : ∀ k, row = some k → B < k) : Reads w1 B a cap C c := by
  have hl := h.lt
  obtain ⟨h1, h2⟩ := h
  refine ⟨h1.of_block (hg.block B hl (fun e => by have := hr B e.symm; omega)), ?_⟩
  rcases h2 with h2 | ⟨b, off, rfl, hb, hc⟩
  · exact Or.inl h2
  · refine Or.inr ⟨b, off, rfl, hb, fun j hj => ?_⟩
    have := hg.cell (hc j hj) (fun e => by have := hr b e.symm; omega)
    exact this

theorem Reads.step {w : World} {B : Nat} {a : Option Addr} {cap : Nat} {C : Txt} {c : Cur} (h : Reads w B a cap C c) (n : Nat) (pos seed : Int) : Reads (((w.drewN n).setCell ⟨B, 2, none⟩ (.int .u64 seed)).setCell ⟨B, 1, none⟩ (.int .i64 pos)) B a cap C ⟨pos, seed⟩ := by
  obtain ⟨h1, h2⟩ := h
  constructor
  · have h1' : (w.drewN n).rowIs B 40 3 (curCells a C.len cap c) := h1.of_block rfl
    refine ((h1'.set 2 (.int .u64 seed)).set 1 (.int .i64 pos)).congr fun i hi => ?_
    unfold curCells
    match i, hi with
    | 0, _ => rfl
    | 1, _ => rfl
    | 2, _ => rfl
  · rcases h2 with h2 | ⟨b, off, rfl, hb, hc⟩
    · exact Or.inl h2
    · refine Or.inr ⟨b, off, rfl, hb, fun j hj => ?_⟩
      rw [World.cell?_setCell_other _ _ _ _ (by first | (simp; done) | (simp; omega)), World.cell?_setCell_other _ _ _ _ (by first | (simp; done) | (simp; omega))]
      exact hc j hj
theorem Reads.step2 {w : World} {B : Nat} {a : Option Addr} {cap : Nat} {C : Txt} {c : Cur} (h : Reads w B a cap C c) (n : Nat) (pos seed : Int) : Reads (((w.drewN n).setCell ⟨B, 1, none⟩ (.int .i64 pos)).setCell ⟨B, 2, none⟩ (.int .u64 seed)) B a cap C ⟨pos, seed⟩ := by
  obtain ⟨h1, h2⟩ := h
  constructor
  · have h1' : (w.drewN n).rowIs B 40 3 (curCells a C.len cap c) := h1.of_block rfl
    refine ((h1'.set 1 (.int .i64 pos)).set 2 (.int .u64 seed)).congr fun i hi => ?_
    unfold curCells
    match i, hi with
    | 0, _ => rfl
    | 1, _ => rfl
    | 2, _ => rfl
  · rcases h2 with h2 | ⟨b, off, rfl, hb, hc⟩
    · exact Or.inl h2
    · refine Or.inr ⟨b, off, rfl, hb, fun j hj => ?_⟩
      rw [World.cell?_setCell_other _ _ _ _ (by first | (simp; done) | (simp; omega)), World.cell?_setCell_other _ _ _ _ (by first | (simp; done) | (simp; omega))]
      exact hc j hj

set_option maxHeartbeats 1000000 in
theorem drnext_any (C : Txt) (hC : C.Ok) (a : Option Addr) (cap B : Nat) (c : Cur) (w : World) (hr : Reads w B a cap C c) (p0 : 0 ≤ c.pos) (p1 : c.pos ≤ 1000000000000) :
    Calls Tryd.prog 25 #[.pointer (some ⟨B, 0, none⟩)] w fun e w' => e = .returned (.int .i64 (C.nextVal c)) ∧ Reads w' B a cap C (C.nextCur c) ∧ w.grownBy w' (some B) := by
  have HR : Hid (Reads w B a cap C c) := hr
  obtain ⟨h1, h2⟩ := hr
  obtain ⟨hlen, hby⟩ := hC
  have e0 : w.cell? ⟨B, 0, none⟩ = some (.slice a C.len cap) := h1.cell (i := 0) (by omega)
  have e1 : w.cell? ⟨B, 1, none⟩ = some (.int .i64 c.pos) := h1.cell (i := 1) (by omega)
  have e2 : w.cell? ⟨B, 2, none⟩ = some (.int .u64 c.seed) := h1.cell (i := 2) (by omega)
  have f1 := h1.frozen 1
  have f2 := h1.frozen 2
  clear h1
  by_cases hp : c.pos < C.len
  · have HV : Hid (C.nextVal c = C.b c.pos.toNat) := if_pos hp
    have HC : Hid (C.nextCur c = ⟨c.pos + 1, turnedBy c.seed (C.b c.pos.toNat)⟩) := if_pos hp
    rcases h2 with h2 | ⟨b, off, rfl, hb, hc⟩
    · omega
    have hcell := hc c.pos.toNat (by omega)
    obtain ⟨y0, y1⟩ := hby c.pos.toNat (by omega)
    obtain ⟨k, hk⟩ : ∃ k : Nat, c.pos = k := ⟨c.pos.toNat, by omega⟩
    have hkt : c.pos.toNat = k := by omega
    rw [hkt] at hcell HV HC y0 y1
    rw [hk] at e1 HC p1 hp
    generalize C.b k = y at *
    clear hby hc hk hkt
    go_enter Tryd.func25, Tryd.ntmps25
    go_wp2
    go_quiet (fail)
    go_wp2
    go_quiet (fail)
    go_wp2
    go_ret
    refine ⟨ret_int HV.out.symm, by rw [HC.out]; exact HR.out.step2 _ _ _, ?_⟩
    exact grown_tr (grown_tr (grown_drawn _ _ _) (grown_set _ _ _ _)) (grown_set _ _ _ _)
  · have g2 : decide (c.pos < (C.len : Int)) = false := by simpa using hp
    have HV : Hid (C.nextVal c = farVal (turned c.seed)) := if_neg hp
    have HC : Hid (C.nextCur c = ⟨c.pos + 1, turned c.seed⟩) := if_neg hp
    clear hby h2 hp
    go_enter Tryd.func25, Tryd.ntmps25
    go_wp2
    go_quiet (fail)
    go_wp2
    go_ret
    refine ⟨ret_int HV.out.symm, by rw [HC.out]; exact HR.out.step _ _ _, ?_⟩
    exact grown_tr (grown_tr (grown_drawn _ _ _) (grown_set _ _ _ _)) (grown_set _ _ _ _)

/-- A number from 0 to n - 1, by one or two. -/
def Txt.pickVal (C : Txt) (c : Cur) (n : Int) : Int := if n ≤ 1 then 0 else if 200 < n then (C.nextVal c * 256 + C.nextVal (C.nextCur c)) % n else C.nextVal c % n
def Txt.pickCur (C : Txt) (c : Cur) (n : Int) : Cur := if n ≤ 1 then c else if 200 < n then C.nextCur (C.nextCur c) else C.nextCur c
def Txt.wideVal (C : Txt) (c : Cur) (n : Int) : Int := (C.nextVal c * 256 + C.nextVal (C.nextCur c)) % n
def Txt.wideCur (C : Txt) (c : Cur) : Cur := C.nextCur (C.nextCur c)
theorem Txt.pickVal_bounds {C : Txt} (h : C.Ok) {c : Cur} (h0 : 0 ≤ c.pos) {n : Int} (hn : 1 ≤ n) : 0 ≤ C.pickVal c n ∧ C.pickVal c n < n := by
  unfold Txt.pickVal
  by_cases a : n ≤ 1
  · rw [if_pos a]; omega
  · rw [if_neg a]
    by_cases b : 200 < n
    · rw [if_pos b]; exact ⟨Int.emod_nonneg _ (by omega), Int.emod_lt_of_pos _ (by omega)⟩
    · rw [if_neg b]; exact ⟨Int.emod_nonneg _ (by omega), Int.emod_lt_of_pos _ (by omega)⟩
theorem Txt.pickCur_pos (C : Txt) (c : Cur) (n : Int) : c.pos ≤ (C.pickCur c n).pos ∧ (C.pickCur c n).pos ≤ c.pos + 2 := by
  unfold Txt.pickCur
  split
  · omega
  · split
    · rw [C.nextCur_pos, C.nextCur_pos]; omega
    · rw [C.nextCur_pos]; omega
theorem Txt.wideVal_bounds {C : Txt} {c : Cur} {n : Int} (hn : 1 ≤ n) : 0 ≤ C.wideVal c n ∧ C.wideVal c n < n := ⟨Int.emod_nonneg _ (by omega), Int.emod_lt_of_pos _ (by omega)⟩
theorem Txt.wideCur_pos (C : Txt) (c : Cur) : (C.wideCur c).pos = c.pos + 2 := by unfold Txt.wideCur; rw [C.nextCur_pos, C.nextCur_pos]; omega

set_option maxHeartbeats 1000000 in
theorem pick_any (C : Txt) (hC : C.Ok) (a : Option Addr) (cap B : Nat) (c : Cur) (n : Int) (w : World) (hr : Reads w B a cap C c) (p0 : 0 ≤ c.pos) (p1 : c.pos ≤ 100000000000) :
    Calls Tryd.prog 12 #[.pointer (some ⟨B, 0, none⟩), .int .i64 n] w fun e w' => e = .returned (.int .i64 (C.pickVal c n)) ∧ Reads w' B a cap C (C.pickCur c n) ∧ w.grownBy w' (some B) := by
  have HR : Hid (Reads w B a cap C c) := hr
  have HC : Hid C.Ok := hC
  clear hr hC
  by_cases h1 : n ≤ 1
  · have HV : Hid (C.pickVal c n = 0) := if_pos h1
    have HD : Hid (C.pickCur c n = c) := if_pos h1
    go_enter Tryd.func12, Tryd.ntmps12
    go_wp2
    go_ret
    exact ⟨ret_int HV.out.symm, by rw [HD.out]; exact HR.out, World.grownBy.refl _ _⟩
  · obtain ⟨v0, v1⟩ := Txt.nextVal_bounds HC.out p0
    have hq : (C.nextCur c).pos = c.pos + 1 := C.nextCur_pos c
    by_cases h2 : 200 < n
    · have HV : Hid (C.pickVal c n = (C.nextVal c * 256 + C.nextVal (C.nextCur c)) % n) := (if_neg h1).trans (if_pos h2)
      have HD : Hid (C.pickCur c n = C.nextCur (C.nextCur c)) := (if_neg h1).trans (if_pos h2)
      obtain ⟨u0, u1⟩ := Txt.nextVal_bounds HC.out (c := C.nextCur c) (by omega)
      go_enter Tryd.func12, Tryd.ntmps12
      go_wp2_with fail
      refine (drnext_any C HC.out a cap B c _ HR.out p0 (by omega)).mono ?_
      rintro e w1 ⟨rfl, hr1, hg1⟩
      go_wp2_with fail
      refine (drnext_any C HC.out a cap B _ _ hr1 (by omega) (by omega)).mono ?_
      rintro e w2 ⟨rfl, hr2, hg2⟩
      have HG : Hid (w.grownBy w2 (some B)) := grown_tr hg1 hg2
      have HR2 : Hid (Reads w2 B a cap C (C.nextCur (C.nextCur c))) := hr2
      clear hr1 hr2 hg1 hg2 hq
      generalize C.nextVal (C.nextCur c) = y at *
      generalize C.nextVal c = x at *
      go_wp2
      go_ret
      refine ⟨ret_int ?_, by rw [HD.out]; exact HR2.out, HG.out⟩
      rw [HV.out]
    · have HV : Hid (C.pickVal c n = C.nextVal c % n) := (if_neg h1).trans (if_neg h2)
      have HD : Hid (C.pickCur c n = C.nextCur c) := (if_neg h1).trans (if_neg h2)
      go_enter Tryd.func12, Tryd.ntmps12
      go_wp2_with fail
      refine (drnext_any C HC.out a cap B c _ HR.out p0 (by omega)).mono ?_
      rintro e w1 ⟨rfl, hr1, hg1⟩
      have HG : Hid (w.grownBy w1 (some B)) := hg1
      have HR2 : Hid (Reads w1 B a cap C (C.nextCur c)) := hr1
      clear hr1 hg1 hq
      generalize C.nextVal c = x at *
      go_wp2
      go_ret
      refine ⟨ret_int ?_, by rw [HD.out]; exact HR2.out, HG.out⟩
      rw [HV.out]

set_option maxHeartbeats 1000000 in
theorem wide_any (C : Txt) (hC : C.Ok) (a : Option Addr) (cap B : Nat) (c : Cur) (n : Int) (w : World) (hr : Reads w B a cap C c) (p0 : 0 ≤ c.pos) (p1 : c.pos ≤ 100000000000) (hn : 1 ≤ n) :
    Calls Tryd.prog 13 #[.pointer (some ⟨B, 0, none⟩), .int .i64 n] w fun e w' => e = .returned (.int .i64 (C.wideVal c n)) ∧ Reads w' B a cap C (C.wideCur c) ∧ w.grownBy w' (some B) := by
  have HR : Hid (Reads w B a cap C c) := hr
  have HC : Hid C.Ok := hC
  clear hr hC
  obtain ⟨v0, v1⟩ := Txt.nextVal_bounds HC.out p0
  have hq : (C.nextCur c).pos = c.pos + 1 := C.nextCur_pos c
  have HV : Hid (C.wideVal c n = (C.nextVal c * 256 + C.nextVal (C.nextCur c)) % n) := rfl
  obtain ⟨u0, u1⟩ := Txt.nextVal_bounds HC.out (c := C.nextCur c) (by omega)
  go_enter Tryd.func13, Tryd.ntmps13
  go_wp2_with fail
  refine (drnext_any C HC.out a cap B c _ HR.out p0 (by omega)).mono ?_
  rintro e w1 ⟨rfl, hr1, hg1⟩
  go_wp2_with fail
  refine (drnext_any C HC.out a cap B _ _ hr1 (by omega) (by omega)).mono ?_
  rintro e w2 ⟨rfl, hr2, hg2⟩
  have HG : Hid (w.grownBy w2 (some B)) := grown_tr hg1 hg2
  have HR2 : Hid (Reads w2 B a cap C (C.wideCur c)) := hr2
  clear hr1 hr2 hg1 hg2 hq
  generalize C.nextVal (C.nextCur c) = y at *
  generalize C.nextVal c = x at *
  go_wp2
  go_ret
  refine ⟨ret_int ?_, HR2.out, HG.out⟩
  rw [HV.out]

set_option maxHeartbeats 1000000 in
theorem steep_any (C : Txt) (hC : C.Ok) (a : Option Addr) (cap B : Nat) (c : Cur) (w : World) (hr : Reads w B a cap C c) (p0 : 0 ≤ c.pos) (p1 : c.pos ≤ 100000000000) :
    Calls Tryd.prog 24 #[.pointer (some ⟨B, 0, none⟩)] w fun e w' => e = .returned (.int .i64 (10 + C.pickVal c 20)) ∧ Reads w' B a cap C (C.pickCur c 20) ∧ w.grownBy w' (some B) := by
  have HR : Hid (Reads w B a cap C c) := hr
  have HC : Hid C.Ok := hC
  clear hr hC
  obtain ⟨v0, v1⟩ := Txt.pickVal_bounds HC.out p0 (n := 20) (by omega)
  go_enter Tryd.func24, Tryd.ntmps24
  go_wp2_with fail
  refine (pick_any C HC.out a cap B c 20 _ HR.out p0 p1).mono ?_
  rintro e w1 ⟨rfl, hr1, hg1⟩
  have HG : Hid (w.grownBy w1 (some B) ∧ Reads w1 B a cap C (C.pickCur c 20)) := ⟨hg1, hr1⟩
  clear hr1 hg1
  go_wp2
  go_ret
  exact ⟨ret_int rfl, HG.out.2, HG.out.1⟩

end Go.Proofs.YteodefmpkljedaaDoor
