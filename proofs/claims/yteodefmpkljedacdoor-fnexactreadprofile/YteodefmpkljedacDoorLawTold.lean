/-
  The laws' helpers on what ReadProfile answers: eqTold, markTold, heldTold.
-/
import Derived.Test.YteodefmpkljedacDoorLawMark2
import Derived.Test.YteodefmpkljedacDoorSpecRead5
namespace Go.Proofs.YteodefmpkljedacDoor
open Go.RowKit Go.Sort
set_option linter.unusedVariables false
set_option linter.unusedSimpArgs false

set_option maxHeartbeats 2000000 in
theorem heldPieceS_any (a : Option Addr) (n cap g t m : Nat) (q : Int) (w : World) (hr : Marked w a n 2 g t m q) (hn : n ≤ 100000000) (hq : 0 ≤ q) (hq' : q ≤ 1000000000) :
    Calls Tryd.prog 31 #[.slice a n cap, .int .i64 q] w fun e w' => e = .returned (.int .i64 (q + n * 2)) ∧ w' = w := by
  have HR : Hid (Marked w a n 2 g t m q) := hr
  clear hr
  go_enter Tryd.func31, Tryd.ntmps31
  go_wp2
  go_loopw [1, 5] (fun sk i wr => ∃ k : Nat, k ≤ n ∧ i = .int .i64 k ∧ sk = .int .i64 (q + k * 2) ∧ wr = w) (fun _ i _ => n - (intOf i).toNat)
  case atStart => exact ⟨0, Nat.zero_le _, rfl, by simp, rfl⟩
  case round =>
    obtain ⟨k, hk, rfl, rfl, hwr⟩ := hrel
    subst wr
    by_cases hlt : k < n
    · rcases HR.out with h0 | ⟨rfl, hm, f, hrow, hf⟩
      · omega
      · have hgl := hrow.lt
        have d0 : w.cell? ⟨g, k * 2, none⟩ = some (.int .i64 (q + k * 2)) := by rw [hrow.cell (i := k * 2) (by omega), hf _ (by omega)] <;> exact congrArg (fun y => some (Value.int .i64 y)) (by omega)
        have d1 : w.cell? ⟨g, k * 2 + 1, none⟩ = some (.int .i64 (q + k * 2 + 1)) := by rw [hrow.cell (i := k * 2 + 1) (by omega), hf _ (by omega)] <;> exact congrArg (fun y => some (Value.int .i64 y)) (by omega)
        clear hrow hf
        go_wp2
        go_roundw
        case rel => exact ⟨k + 1, by omega, by go_num, by go_num, by first | rfl | trivial⟩
        case measure => simp [intOf]; omega
    · have e : k = n := by omega
      subst e
      go_wp2
      go_ret
      exact ⟨ret_int rfl, rfl⟩

set_option maxHeartbeats 2000000 in
theorem heldZoneS_any (a : Option Addr) (n cap g t m : Nat) (q : Int) (w : World) (hr : Marked w a n 3 g t m q) (hn : n ≤ 100000000) (hq : 0 ≤ q) (hq' : q ≤ 1000000000) :
    Calls Tryd.prog 32 #[.slice a n cap, .int .i64 q] w fun e w' => e = .returned (.int .i64 (q + n * 3)) ∧ w' = w := by
  have HR : Hid (Marked w a n 3 g t m q) := hr
  clear hr
  go_enter Tryd.func32, Tryd.ntmps32
  go_wp2
  go_loopw [1, 5] (fun sk i wr => ∃ k : Nat, k ≤ n ∧ i = .int .i64 k ∧ sk = .int .i64 (q + k * 3) ∧ wr = w) (fun _ i _ => n - (intOf i).toNat)
  case atStart => exact ⟨0, Nat.zero_le _, rfl, by simp, rfl⟩
  case round =>
    obtain ⟨k, hk, rfl, rfl, hwr⟩ := hrel
    subst wr
    by_cases hlt : k < n
    · rcases HR.out with h0 | ⟨rfl, hm, f, hrow, hf⟩
      · omega
      · have hgl := hrow.lt
        have d0 : w.cell? ⟨g, k * 3, none⟩ = some (.int .i64 (q + k * 3)) := by rw [hrow.cell (i := k * 3) (by omega), hf _ (by omega)] <;> exact congrArg (fun y => some (Value.int .i64 y)) (by omega)
        have d1 : w.cell? ⟨g, k * 3 + 1, none⟩ = some (.int .i64 (q + k * 3 + 1)) := by rw [hrow.cell (i := k * 3 + 1) (by omega), hf _ (by omega)] <;> exact congrArg (fun y => some (Value.int .i64 y)) (by omega)
        have d2 : w.cell? ⟨g, k * 3 + 2, none⟩ = some (.int .i64 (q + k * 3 + 2)) := by rw [hrow.cell (i := k * 3 + 2) (by omega), hf _ (by omega)] <;> exact congrArg (fun y => some (Value.int .i64 y)) (by omega)
        clear hrow hf
        go_wp2
        go_roundw
        case rel => exact ⟨k + 1, by omega, by go_num, by go_num, by first | rfl | trivial⟩
        case measure => simp [intOf]; omega
    · have e : k = n := by omega
      subst e
      go_wp2
      go_ret
      exact ⟨ret_int rfl, rfl⟩

/-- The block that is written, where anything is. -/
def rowOf (n g : Nat) : Option Nat := if n = 0 then none else some g
theorem rowOf_some {n g k : Nat} (h : rowOf n g = some k) : n ≠ 0 ∧ k = g := by
  unfold rowOf at h
  split at h
  · cases h
  · next c => exact ⟨c, (Option.some.inj h).symm⟩
theorem rowOf_pos {n g : Nat} (h : n ≠ 0) : rowOf n g = some g := if_neg h
theorem grown_far {w w' : World} {k : Nat} (h : w.grownBy w' (some k)) (hk : w.heap.size ≤ k) : w.grownBy w' none :=
  ⟨h.os, h.tape, h.output, h.size, fun i hi _ => h.block i hi (fun e => by have h2 := Option.some.inj e; omega)⟩
theorem MRow.grown' {w w1 : World} {row : Option Nat} {a : Option Addr} {n s g t m : Nat} (h : MRow w a n s g t m) (hg : w.grownBy w1 row) (hr : n ≠ 0 → some g ≠ row) : MRow w1 a n s g t m := by
  by_cases c : n = 0
  · exact Or.inl c
  · exact h.grown hg (hr c)
theorem Marked.grown' {w w1 : World} {row : Option Nat} {a : Option Addr} {n s g t m : Nat} {k : Int} (h : Marked w a n s g t m k) (hg : w.grownBy w1 row) (hr : n ≠ 0 → some g ≠ row) : Marked w1 a n s g t m k := by
  by_cases c : n = 0
  · exact Or.inl c
  · exact h.grown hg (hr c)
theorem markP_r (a : Option Addr) (n cap g t m : Nat) (q : Int) (w : World) (hr : MRow w a n 2 g t m) (hn : n ≤ 100000000) (hq : 0 ≤ q) (hq' : q ≤ 1000000000) :
    Calls Tryd.prog 29 #[.slice a n cap, .int .i64 q] w fun e w' => e = .returned (.int .i64 (q + n * 2)) ∧ Marked w' a n 2 g t m q ∧ w.grownBy w' (rowOf n g) := by
  by_cases c : n = 0
  · subst c
    refine (markPieceS_any a 0 cap w.heap.size t m q w (Or.inl rfl) hn hq hq').mono ?_
    rintro e w' ⟨h1, _, h3⟩
    exact ⟨h1, Or.inl rfl, grown_far h3 (Nat.le_refl _)⟩
  · rw [rowOf_pos c]
    exact markPieceS_any a n cap g t m q w hr hn hq hq'
theorem markZ_r (a : Option Addr) (n cap g t m : Nat) (q : Int) (w : World) (hr : MRow w a n 3 g t m) (hn : n ≤ 100000000) (hq : 0 ≤ q) (hq' : q ≤ 1000000000) :
    Calls Tryd.prog 30 #[.slice a n cap, .int .i64 q] w fun e w' => e = .returned (.int .i64 (q + n * 3)) ∧ Marked w' a n 3 g t m q ∧ w.grownBy w' (rowOf n g) := by
  by_cases c : n = 0
  · subst c
    refine (markZoneS_any a 0 cap w.heap.size t m q w (Or.inl rfl) hn hq hq').mono ?_
    rintro e w' ⟨h1, _, h3⟩
    exact ⟨h1, Or.inl rfl, grown_far h3 (Nat.le_refl _)⟩
  · rw [rowOf_pos c]
    exact markZoneS_any a n cap g t m q w hr hn hq hq'

/-- The two rows of a profile, each writable, apart. -/
structure MRows (w : World) (ap az : Option Addr) (np nz g h mp mz : Nat) : Prop where
  p : MRow w ap np 2 g 40 mp
  z : MRow w az nz 3 h 42 mz
  gl : np ≠ 0 → g < w.heap.size
  hl : nz ≠ 0 → h < w.heap.size
  ne : np ≠ 0 → nz ≠ 0 → g ≠ h
structure MkRows (w : World) (ap az : Option Addr) (np nz g h mp mz : Nat) (q : Int) : Prop where
  p : Marked w ap np 2 g 40 mp q
  z : Marked w az nz 3 h 42 mz (q + np * 2)
theorem MkRows.below {w w1 : World} {ap az : Option Addr} {np nz g h mp mz : Nat} {q : Int} (k : MkRows w ap az np nz g h mp mz q) (hb : Below w.heap.size w w1) : MkRows w1 ap az np nz g h mp mz q := ⟨k.p.below hb, k.z.below hb⟩
theorem mrows_owned {w : World} {base np nz : Nat} {sp sz : Value} {xs zs : List Value} (h1 : w.ownsRow base 40 2 sp np xs) (h2 : w.ownsRow base 42 3 sz nz zs) :
    ∃ ap az cp cz g h mp mz, sp = .slice ap np cp ∧ sz = .slice az nz cz ∧ MRows w ap az np nz g h mp mz ∧ (np ≠ 0 → base ≤ g) ∧ (nz ≠ 0 → base ≤ h) := by
  obtain ⟨ap, cp, g, mp, rfl, m1, b1, _⟩ := mrow_owned h1
  obtain ⟨az, cz, h, mz, rfl, m2, b2, _⟩ := mrow_owned h2
  refine ⟨ap, az, cp, cz, g, h, mp, mz, rfl, rfl, ⟨m1, m2, fun c => ?_, fun c => ?_, fun c d e => ?_⟩, fun c => ?_, fun c => ?_⟩
  · rcases m1 with q | ⟨_, _, f, q⟩
    · exact absurd q c
    · exact q.lt
  · rcases m2 with q | ⟨_, _, f, q⟩
    · exact absurd q c
    · exact q.lt
  · subst e
    rcases m1 with q | ⟨_, _, f, q⟩
    · exact c q
    · rcases m2 with r | ⟨_, _, f', r⟩
      · exact d r
      · obtain ⟨xs, q1, _⟩ := q
        obtain ⟨ys, r1, _⟩ := r
        rw [q1] at r1
        cases r1
  · rcases b1 with q | q
    · exact absurd q c
    · exact q
  · rcases b2 with q | q
    · exact absurd q c
    · exact q

set_option maxHeartbeats 2000000 in
theorem markTold_any (c0 c1 t0 t1 t2 q : Int) (ap az : Option Addr) (np nz cp cz g h mp mz : Nat) (w : World) (hr : MRows w ap az np nz g h mp mz) (hn : np ≤ 3000) (hn' : nz ≤ 3000) (hq : 0 ≤ q) (hq' : q ≤ 1000) :
    Calls Tryd.prog 7 #[.agg #[.int .i64 c0, .int .i64 c1, .slice ap np cp, .slice az nz cz, .int .i64 t0, .int .i64 t1, .int .i64 t2], .int .i64 q] w fun e w' => e = .returned (.int .i64 (q + np * 2 + nz * 3)) ∧ MkRows w' ap az np nz g h mp mz q ∧ ∃ w1, w.grownBy w1 (rowOf np g) ∧ w1.grownBy w' (rowOf nz h) := by
  have HP : Hid (MRow w ap np 2 g 40 mp) := hr.p
  have HZ : Hid (MRow w az nz 3 h 42 mz) := hr.z
  have gl := hr.gl
  have hl := hr.hl
  have hne := hr.ne
  clear hr
  have HPR : Hid (∀ y : World, MRow y ap np 2 g 40 mp → MRow y az nz 3 h 42 mz → (np ≠ 0 → g < y.heap.size) → (nz ≠ 0 → h < y.heap.size) → Calls Tryd.prog 16 #[.agg #[.slice ap np cp, .slice az nz cz, .int .i64 t0, .int .i64 t1, .int .i64 t2], .int .i64 q] y fun e w' => e = .returned (.int .i64 (q + np * 2 + nz * 3)) ∧ MkRows w' ap az np nz g h mp mz q ∧ ∃ w1, y.grownBy w1 (rowOf np g) ∧ w1.grownBy w' (rowOf nz h)) := by
    intro y hp hz yg yh
    have M1 : Hid (MRow y ap np 2 g 40 mp) := hp
    have M2 : Hid (MRow y az nz 3 h 42 mz) := hz
    clear hp hz
    go_enter Tryd.func16, Tryd.ntmps16
    go_wp2_with fail
    have g0 : y.grownBy (y.alloc (.cells #[.slice ap np cp, .slice az nz cz, .int .i64 t0, .int .i64 t1, .int .i64 t2] 25)) none := World.grownBy_alloc _ _ _
    have x1 : (y.alloc (.cells #[.slice ap np cp, .slice az nz cz, .int .i64 t0, .int .i64 t1, .int .i64 t2] 25)).cell? ⟨y.heap.size, 1, none⟩ = some (.slice az nz cz) := by go_simp
    refine (markP_r _ _ _ g 40 mp q _ (M1.out.grown g0 (by simp)) (by omega) hq (by omega)).mono ?_
    rintro e w1 ⟨rfl, hm1, hg1⟩
    have HM1 : Hid (Marked w1 ap np 2 g 40 mp q) := hm1
    have y1 : w1.cell? ⟨y.heap.size, 1, none⟩ = some (.slice az nz cz) := hg1.cell x1 (fun e => by obtain ⟨h1, h2⟩ : np ≠ 0 ∧ y.heap.size = g := rowOf_some e.symm; have h3 := yg h1; omega)
    have hg3 : y.grownBy w1 (rowOf np g) := ⟨hg1.os.trans g0.os, hg1.tape.trans g0.tape, hg1.output.trans g0.output, Nat.le_trans g0.size hg1.size, fun i hi hne => (hg1.block i (Nat.lt_of_lt_of_le hi g0.size) hne).trans (g0.block i hi (by simp))⟩
    clear x1 hm1
    go_wp2_with fail
    refine (markZ_r _ _ _ h 42 mz _ _ ((M2.out.grown g0 (by simp)).grown' hg1 (fun c e => by obtain ⟨h1, h2⟩ := rowOf_some e.symm; exact hne h1 c h2.symm)) (by omega) (by omega) (by omega)).mono ?_
    rintro e w2 ⟨rfl, hm2, hg2⟩
    have HM2 : Hid (MkRows w2 ap az np nz g h mp mz q) := ⟨HM1.out.grown' hg2 (fun c e => by obtain ⟨h1, h2⟩ := rowOf_some e.symm; exact hne c h1 h2), hm2⟩
    clear hm2
    go_wp2
    go_ret
    exact ⟨rfl, HM2.out, w1, hg3, hg2⟩
  go_enter Tryd.func7, Tryd.ntmps7
  go_wp2_with fail
  obtain ⟨W, hW⟩ : ∃ W, w.alloc (.cells #[.int .i64 c0, .int .i64 c1, .slice ap np cp, .slice az nz cz, .int .i64 t0, .int .i64 t1, .int .i64 t2] 27) = W := ⟨_, rfl⟩
  rw [hW]
  have g0 : w.grownBy W none := by rw [← hW]; exact World.grownBy_alloc _ _ _
  clear hW
  refine (HPR.out W (HP.out.grown g0 (by simp)) (HZ.out.grown g0 (by simp)) (fun c => Nat.lt_of_lt_of_le (gl c) g0.size) (fun c => Nat.lt_of_lt_of_le (hl c) g0.size)).mono ?_
  rintro e w2 ⟨rfl, hm, w1, hg1, hg2⟩
  have HM : Hid (MkRows w2 ap az np nz g h mp mz q) := hm
  have hg3 : w.grownBy w1 (rowOf np g) := ⟨hg1.os.trans g0.os, hg1.tape.trans g0.tape, hg1.output.trans g0.output, Nat.le_trans g0.size hg1.size, fun i hi hne => (hg1.block i (Nat.lt_of_lt_of_le hi g0.size) hne).trans (g0.block i hi (by simp))⟩
  clear hm
  go_wp2
  go_ret
  exact ⟨rfl, HM.out, w1, hg3, hg2⟩

set_option maxHeartbeats 2000000 in
theorem heldTold_any (c0 c1 t0 t1 t2 q : Int) (ap az : Option Addr) (np nz cp cz g h mp mz : Nat) (w : World) (hr : MkRows w ap az np nz g h mp mz q) (hn : np ≤ 3000) (hn' : nz ≤ 3000) (hq : 0 ≤ q) (hq' : q ≤ 1000) :
    Calls Tryd.prog 8 #[.agg #[.int .i64 c0, .int .i64 c1, .slice ap np cp, .slice az nz cz, .int .i64 t0, .int .i64 t1, .int .i64 t2], .int .i64 q] w fun e w' => e = .returned (.int .i64 (q + np * 2 + nz * 3)) ∧ Below w.heap.size w w' := by
  have HM : Hid (MkRows w ap az np nz g h mp mz q) := hr
  clear hr
  have HPR : Hid (∀ y : World, MkRows y ap az np nz g h mp mz q → Calls Tryd.prog 17 #[.agg #[.slice ap np cp, .slice az nz cz, .int .i64 t0, .int .i64 t1, .int .i64 t2], .int .i64 q] y fun e w' => e = .returned (.int .i64 (q + np * 2 + nz * 3)) ∧ Below y.heap.size y w') := by
    intro y hy
    have HY : Hid (MkRows y ap az np nz g h mp mz q) := hy
    clear hy
    have n1 : decide (q + (np : Int) * 2 < 0) = false := by simp; omega
    have n2 : decide (q + (np : Int) * 2 + (nz : Int) * 3 < 0) = false := by simp; omega
    go_enter Tryd.func17, Tryd.ntmps17
    go_wp2_with fail
    have b0 : Below y.heap.size y (y.alloc (.cells #[.slice ap np cp, .slice az nz cz, .int .i64 t0, .int .i64 t1, .int .i64 t2] 25)) := (Below.refl _ _).alloc (Nat.le_refl _) _
    refine (heldPieceS_any _ _ _ g 40 mp q _ (HY.out.below b0).p (by omega) hq (by omega)).mono ?_
    rintro e w1 ⟨rfl, rfl⟩
    go_wp2_with fail
    refine (heldZoneS_any _ _ _ h 42 mz _ _ (HY.out.below b0).z (by omega) (by omega) (by omega)).mono ?_
    rintro e w1 ⟨rfl, rfl⟩
    go_wp2
    go_ret
    exact ⟨rfl, b0⟩
  have n2 : decide (q + (np : Int) * 2 + (nz : Int) * 3 < 0) = false := by simp; omega
  go_enter Tryd.func8, Tryd.ntmps8
  go_wp2_with fail
  obtain ⟨W, hW⟩ : ∃ W, w.alloc (.cells #[.int .i64 c0, .int .i64 c1, .slice ap np cp, .slice az nz cz, .int .i64 t0, .int .i64 t1, .int .i64 t2] 27) = W := ⟨_, rfl⟩
  rw [hW]
  have b0 : Below w.heap.size w W := by rw [← hW]; exact (Below.refl _ _).alloc (Nat.le_refl _) _
  clear hW
  refine (HPR.out W (HM.out.below b0)).mono ?_
  rintro e w1 ⟨rfl, hb⟩
  have b1 := b0.trans (hb.mono b0.size)
  clear hb
  go_wp2
  go_ret
  exact ⟨rfl, b1⟩

set_option maxHeartbeats 2000000 in
theorem eqTold_same (P : Prof) (c0 c1 : Int) (ap az ap' az' : Option Addr) (cp cz cp' cz' : Nat) (w : World) (hl : P.Lies w (.agg #[.slice ap P.np cp, .slice az P.nz cz, .int .i64 P.train, .int .i64 P.fin, .int .i64 P.delay])) (hl' : P.Lies w (.agg #[.slice ap' P.np cp', .slice az' P.nz cz', .int .i64 P.train, .int .i64 P.fin, .int .i64 P.delay])) :
    Calls Tryd.prog 6 #[.agg #[.int .i64 c0, .int .i64 c1, .slice ap P.np cp, .slice az P.nz cz, .int .i64 P.train, .int .i64 P.fin, .int .i64 P.delay], .agg #[.int .i64 c0, .int .i64 c1, .slice ap' P.np cp', .slice az' P.nz cz', .int .i64 P.train, .int .i64 P.fin, .int .i64 P.delay]] w fun e w' => e = .returned (.bool true) ∧ Below w.heap.size w w' := by
  have HL : Hid (P.Lies w (.agg #[.slice ap P.np cp, .slice az P.nz cz, .int .i64 P.train, .int .i64 P.fin, .int .i64 P.delay])) := hl
  have HL' : Hid (P.Lies w (.agg #[.slice ap' P.np cp', .slice az' P.nz cz', .int .i64 P.train, .int .i64 P.fin, .int .i64 P.delay])) := hl'
  clear hl hl'
  have h0 : (c0 != c0) = false := by simp
  have h1 : (c1 != c1) = false := by simp
  go_enter Tryd.func6, Tryd.ntmps6
  go_wp2_with fail
  generalize hW : (w.alloc _).alloc _ = W
  have bW : Below w.heap.size w W := by rw [← hW]; exact ((Below.refl _ _).alloc (Nat.le_refl _) _).alloc (by simp) _
  clear hW
  refine (eqProfile_same P _ _ W (HL.out.below bW) (HL'.out.below bW)).mono ?_
  rintro e w1 ⟨rfl, hb1⟩
  have b1 := bW.trans (hb1.mono bW.size)
  clear hb1
  go_wp2
  go_ret
  exact ⟨rfl, b1⟩

end Go.Proofs.YteodefmpkljedacDoor
