/-
  The law of ReadProfile: what is told lies in a box; the walk.
-/
import Derived.Test.YteodefmpkljedacDoorLawTold
import Derived.Test.YteodefmpkljedacDoorImplRead8
namespace Go.Proofs.YteodefmpkljedacDoor
open Go.RowKit Go.Sort Go.Shelf
set_option linter.unusedVariables false
set_option linter.unusedSimpArgs false

structure TBox (w : World) (b : Nat) (T : Tld) (ap az : Option Addr) (cp cz : Nat) : Prop where
  c0 : w.cell? ⟨b, 0, none⟩ = some (.int .i64 T.code)
  c1 : w.cell? ⟨b, 1, none⟩ = some (.int .i64 T.at_)
  c2 : w.cell? ⟨b, 2, none⟩ = some (.slice ap T.P.np cp)
  c3 : w.cell? ⟨b, 3, none⟩ = some (.slice az T.P.nz cz)
  c4 : w.cell? ⟨b, 4, none⟩ = some (.int .i64 T.P.train)
  c5 : w.cell? ⟨b, 5, none⟩ = some (.int .i64 T.P.fin)
  c6 : w.cell? ⟨b, 6, none⟩ = some (.int .i64 T.P.delay)
theorem TBox.lt {w : World} {b : Nat} {T : Tld} {ap az : Option Addr} {cp cz : Nat} (h : TBox w b T ap az cp cz) : b < w.heap.size := World.block_lt_of_cell? _ _ h.c0
theorem TBox.of_block {w w1 : World} {b : Nat} {T : Tld} {ap az : Option Addr} {cp cz : Nat} (h : TBox w b T ap az cp cz) (e : w1.heap[b]? = w.heap[b]?) : TBox w1 b T ap az cp cz :=
  ⟨(World.cell?_of_block (a := ⟨b, 0, none⟩) e).trans h.c0, (World.cell?_of_block (a := ⟨b, 1, none⟩) e).trans h.c1, (World.cell?_of_block (a := ⟨b, 2, none⟩) e).trans h.c2, (World.cell?_of_block (a := ⟨b, 3, none⟩) e).trans h.c3, (World.cell?_of_block (a := ⟨b, 4, none⟩) e).trans h.c4, (World.cell?_of_block (a := ⟨b, 5, none⟩) e).trans h.c5, (World.cell?_of_block (a := ⟨b, 6, none⟩) e).trans h.c6⟩
theorem TBox.below {w w1 : World} {B b : Nat} {T : Tld} {ap az : Option Addr} {cp cz : Nat} (h : TBox w b T ap az cp cz) (hb : Below B w w1) (hB : b < B) : TBox w1 b T ap az cp cz := h.of_block (hb.block b hB)
theorem TBox.grown {w w1 : World} {row : Option Nat} {b : Nat} {T : Tld} {ap az : Option Addr} {cp cz : Nat} (h : TBox w b T ap az cp cz) (hg : w.grownBy w1 row) (hr : some b ≠ row) : TBox w1 b T ap az cp cz := h.of_block (hg.block b h.lt hr)
theorem MRow.below {w w1 : World} {a : Option Addr} {n s g t m : Nat} (h : MRow w a n s g t m) (hb : Below w.heap.size w w1) : MRow w1 a n s g t m := by
  rcases h with h | ⟨h1, h2, f, h3⟩
  · exact Or.inl h
  · exact Or.inr ⟨h1, h2, f, rowIs_below h3 hb⟩
theorem MRows.below {w w1 : World} {ap az : Option Addr} {np nz g h mp mz : Nat} (k : MRows w ap az np nz g h mp mz) (hb : Below w.heap.size w w1) : MRows w1 ap az np nz g h mp mz :=
  ⟨k.p.below hb, k.z.below hb, fun c => Nat.lt_of_lt_of_le (k.gl c) hb.size, fun c => Nat.lt_of_lt_of_le (k.hl c) hb.size, k.ne⟩
theorem told_few (t : List UInt8) : (told t).P.np ≤ 60 ∧ (told t).P.nz ≤ 60 := by
  unfold told
  split
  · exact ⟨Nat.zero_le _, Nat.zero_le _⟩
  · generalize rtext t = R
    rcases R with n | ⟨g, m⟩
    · exact ⟨Nat.zero_le _, Nat.zero_le _⟩
    · by_cases c : (profOf g).code = 0
      · rw [toldOf_ok m c]
        have h := (Prof.code_zero.1 c).counts
        exact ⟨h.2.1, h.2.2⟩
      · rw [toldOf_wrong m c]
        exact ⟨Nat.zero_le _, Nat.zero_le _⟩
theorem told_lies {T : Tld} {base : Nat} {w : World} {ap az : Option Addr} {cp cz : Nat} (h : T.Owned base w (.slice ap T.P.np cp) (.slice az T.P.nz cz)) (hn : T.P.np ≤ 60 ∧ T.P.nz ≤ 60) : T.P.Lies w (.agg #[.slice ap T.P.np cp, .slice az T.P.nz cz, .int .i64 T.P.train, .int .i64 T.P.fin, .int .i64 T.P.delay]) := by
  obtain ⟨a, c, e, k, _⟩ := owned_shape h.1
  obtain ⟨rfl, rfl⟩ : ap = a ∧ cp = c := by simpa using e
  exact ⟨ap, cp, az, cz, rfl, ⟨by omega, k⟩, by omega, owned_row2 h.1, owned_row3 h.2⟩

set_option maxRecDepth 20000 in
set_option maxHeartbeats 8000000 in
theorem fnExactRead_any (t : List UInt8) (w : World) (hw : WordsAt w) (hE : ErrT w) (ht : t.length ≤ 9223372036854775807) :
    Calls Tryd.prog 3 #[.string ⟨t.toArray⟩] w fun e w' => e = .returned (.bool true) ∧ Below w.heap.size w w' := by
  by_cases hlen : 1048576 < t.length
  · have hl : (1048576 : Int) < (t.length : Int) := by omega
    clear hw hE
    go_enter Tryd.func3, Tryd.ntmps3
    go_wp2
    go_ret
    exact ⟨rfl, Below.refl _ _⟩
  · have hl : ¬ (1048576 : Int) < (t.length : Int) := by omega
    have HW : Hid (WordsAt w) := hw
    have HE : Hid (ErrT w) := hE
    have HS : Hid (∀ y, Calls Tryd.prog 4 #[.string ⟨t.toArray⟩] y fun e w' => ∃ sp sz, e = .returned ((told t).val sp sz) ∧ (told t).Owned y.heap.size w' sp sz ∧ Below y.heap.size y w') := fun y => specRead_any t y ht
    have HI : Hid (∀ y, WordsAt y → ErrT y → Calls Tryd.prog 5 #[.string ⟨t.toArray⟩] y fun e w' => ∃ sp sz, e = .returned ((told t).val sp sz) ∧ (told t).Owned y.heap.size w' sp sz ∧ Below y.heap.size y w') := fun y h1 h2 => implRead_any t y h1 h2 ht
    have hn := told_few t
    clear hw hE ht
    generalize told t = T at *
    obtain ⟨n1, n2⟩ := hn
    have HN : Hid (T.P.np ≤ 60 ∧ T.P.nz ≤ 60) := ⟨n1, n2⟩
    go_enter Tryd.func3, Tryd.ntmps3
    go_wp2_with fail
    refine (HS.out _).mono ?_
    rintro e w1 ⟨sp, sz, rfl, ho1, hb1⟩
    obtain ⟨ap, cp, rfl, _⟩ := owned_shape ho1.1
    obtain ⟨az, cz, rfl, _⟩ := owned_shape ho1.2
    obtain ⟨b1, hB1⟩ : ∃ b1, w1.heap.size = b1 := ⟨_, rfl⟩
    obtain ⟨W1, hW1⟩ : ∃ W1, w1.alloc (.cells #[.int .i64 T.code, .int .i64 T.at_, .slice ap T.P.np cp, .slice az T.P.nz cz, .int .i64 T.P.train, .int .i64 T.P.fin, .int .i64 T.P.delay] 27) = W1 := ⟨_, rfl⟩
    have bx1 : Below w1.heap.size w1 W1 := by rw [← hW1]; exact (Below.refl _ _).alloc (Nat.le_refl _) _
    have T1 := hb1.trans (bx1.mono hb1.size)
    have k1 : TBox W1 b1 T ap az cp cz := by subst hW1 hB1; exact ⟨by go_simp, by go_simp, by go_simp, by go_simp, by go_simp, by go_simp, by go_simp⟩
    have K1 : Hid (TBox W1 b1 T ap az cp cz) := k1
    have l1 := k1.lt
    have L1 : Hid (T.P.Lies W1 (.agg #[.slice ap T.P.np cp, .slice az T.P.nz cz, .int .i64 T.P.train, .int .i64 T.P.fin, .int .i64 T.P.delay])) := (told_lies ho1 HN.out).below bx1
    clear ho1 hb1 bx1 k1
    simp only [Tld.val]
    go_wp2_with fail
    clear hW1 hB1
    refine (HI.out _ (HW.out.below T1) (HE.out.below T1)).mono ?_
    rintro e w2 ⟨sp, sz, rfl, ho2, hb2⟩
    obtain ⟨ga, gz, gcp, gcz, g, h, mp, mz, rfl, rfl, hM, bg, bh⟩ := mrows_owned ho2.1 ho2.2
    have mg := hM.gl
    have mh := hM.hl
    obtain ⟨b2, hB2⟩ : ∃ b2, w2.heap.size = b2 := ⟨_, rfl⟩
    obtain ⟨W2, hW2⟩ : ∃ W2, w2.alloc (.cells #[.int .i64 T.code, .int .i64 T.at_, .slice ga T.P.np gcp, .slice gz T.P.nz gcz, .int .i64 T.P.train, .int .i64 T.P.fin, .int .i64 T.P.delay] 27) = W2 := ⟨_, rfl⟩
    have bx2 : Below w2.heap.size w2 W2 := by rw [← hW2]; exact (Below.refl _ _).alloc (Nat.le_refl _) _
    have S2 := hb2.trans (bx2.mono hb2.size)
    have s2 := hb2.size
    have k2 : TBox W2 b2 T ga gz gcp gcz := by subst hW2 hB2; exact ⟨by go_simp, by go_simp, by go_simp, by go_simp, by go_simp, by go_simp, by go_simp⟩
    have K2 : Hid (TBox W2 b2 T ga gz gcp gcz) := k2
    have l2 := k2.lt
    have M2 : Hid (MRows W2 ga gz T.P.np T.P.nz g h mp mz) := hM.below bx2
    have L2 : Hid (T.P.Lies W2 (.agg #[.slice ga T.P.np gcp, .slice gz T.P.nz gcz, .int .i64 T.P.train, .int .i64 T.P.fin, .int .i64 T.P.delay])) := (told_lies ho2 HN.out).below bx2
    have HG : Hid ((T.P.np ≠ 0 → W1.heap.size ≤ g ∧ g < b2) ∧ (T.P.nz ≠ 0 → W1.heap.size ≤ h ∧ h < b2)) := ⟨fun c => ⟨bg c, hB2 ▸ mg c⟩, fun c => ⟨bh c, hB2 ▸ mh c⟩⟩
    obtain ⟨p0, p1, p2, p3, p4, p5', p6⟩ := K1.out.below S2 l1
    obtain ⟨q0, q1, q2, q3, q4, q5, q6⟩ := k2
    clear ho2 hb2 bx2 hM mg mh bg bh
    simp only [Tld.val]
    go_wp2_with fail
    clear hW2 hB2 p0 p1 p2 p3 p4 p5' p6 q0 q1 q2 q3 q4 q5 q6
    refine (eqTold_same T.P _ _ _ _ _ _ _ _ _ _ _ L2.out (L1.out.below S2)).mono ?_
    rintro e w3 ⟨rfl, hb3⟩
    have S3 := S2.trans (hb3.mono S2.size)
    have k3 := K2.out.below hb3 l2
    have K3 : Hid (TBox w3 b2 T ga gz gcp gcz) := k3
    have M3 : Hid (MRows w3 ga gz T.P.np T.P.nz g h mp mz) := M2.out.below hb3
    obtain ⟨q0, q1, q2, q3, q4, q5, q6⟩ := k3
    clear hb3
    go_wp2_with fail
    refine (markTold_any _ _ _ _ _ 1 _ _ _ _ _ _ g h mp mz _ M3.out (by omega) (by omega) (by omega) (by omega)).mono ?_
    rintro e w4 ⟨rfl, hk, x4, hG1, hG2⟩
    have gs1 : ∀ k, rowOf T.P.np g = some k → W1.heap.size ≤ k ∧ k < b2 := fun k e => by obtain ⟨c, rfl⟩ := rowOf_some e; exact HG.out.1 c
    have gs2 : ∀ k, rowOf T.P.nz h = some k → W1.heap.size ≤ k ∧ k < b2 := fun k e => by obtain ⟨c, rfl⟩ := rowOf_some e; exact HG.out.2 c
    have S4a := S3.grown hG1 S3.size (fun k e => (gs1 k e).1)
    have S4 := S4a.grown hG2 S4a.size (fun k e => (gs2 k e).1)
    have k4 := (K3.out.grown hG1 (fun e => by have := (gs1 _ e.symm).2; omega)).grown hG2 (fun e => by have := (gs2 _ e.symm).2; omega)
    have K4 : Hid (TBox w4 b2 T ga gz gcp gcz) := k4
    have N4 : Hid (MkRows w4 ga gz T.P.np T.P.nz g h mp mz 1) := hk
    clear q0 q1 q2 q3 q4 q5 q6 hG1 hG2 hk gs1 gs2 S4a
    obtain ⟨q0, q1, q2, q3, q4, q5, q6⟩ := k4
    go_wp2_with fail
    refine (heldTold_any _ _ _ _ _ 1 _ _ _ _ _ _ g h mp mz _ N4.out (by omega) (by omega) (by omega) (by omega)).mono ?_
    rintro e w5 ⟨rfl, hb5⟩
    have S5 := S4.trans (hb5.mono S4.size)
    have T5 := T1.trans (S5.mono T1.size)
    have c1 : ¬ ((1 : Int) + T.P.np * 2 + T.P.nz * 3 < 0) := by omega
    have c2 : ((1 : Int) + T.P.np * 2 + T.P.nz * 3 != (1 : Int) + T.P.np * 2 + T.P.nz * 3) = false := by simp
    clear q0 q1 q2 q3 q4 q5 q6
    go_wp2_with fail
    refine (HI.out _ (HW.out.below T5) (HE.out.below T5)).mono ?_
    rintro e w6 ⟨sp, sz, rfl, ho6, hb6⟩
    obtain ⟨ha, hcp, rfl, _⟩ := owned_shape ho6.1
    obtain ⟨hz, hcz, rfl, _⟩ := owned_shape ho6.2
    obtain ⟨b6, hB6⟩ : ∃ b6, w6.heap.size = b6 := ⟨_, rfl⟩
    obtain ⟨W6, hW6⟩ : ∃ W6, w6.alloc (.cells #[.int .i64 T.code, .int .i64 T.at_, .slice ha T.P.np hcp, .slice hz T.P.nz hcz, .int .i64 T.P.train, .int .i64 T.P.fin, .int .i64 T.P.delay] 27) = W6 := ⟨_, rfl⟩
    have bx6 : Below w6.heap.size w6 W6 := by rw [← hW6]; exact (Below.refl _ _).alloc (Nat.le_refl _) _
    have e6 := (hb5.trans (hb6.mono hb5.size)).trans (bx6.mono (Nat.le_trans hb5.size hb6.size))
    have S6 := S4.trans (e6.mono S4.size)
    have k6 : TBox W6 b6 T ha hz hcp hcz := by subst hW6 hB6; exact ⟨by go_simp, by go_simp, by go_simp, by go_simp, by go_simp, by go_simp, by go_simp⟩
    have L6 : Hid (T.P.Lies W6 (.agg #[.slice ha T.P.np hcp, .slice hz T.P.nz hcz, .int .i64 T.P.train, .int .i64 T.P.fin, .int .i64 T.P.delay])) := (told_lies ho6 HN.out).below bx6
    obtain ⟨p0, p1, p2, p3, p4, p5', p6⟩ := K1.out.below S6 l1
    obtain ⟨q0, q1, q2, q3, q4, q5, q6⟩ := k6
    clear ho6 hb6 bx6 hb5 c1 c2
    simp only [Tld.val]
    go_wp2_with fail
    clear hW6 hB6 p0 p1 p2 p3 p4 p5' p6 q0 q1 q2 q3 q4 q5 q6
    refine (eqTold_same T.P _ _ _ _ _ _ _ _ _ _ _ L6.out (L1.out.below S6)).mono ?_
    rintro e w7 ⟨rfl, hb7⟩
    have e7 := e6.trans (hb7.mono e6.size)
    have S7 := S4.trans (e7.mono S4.size)
    have k7 := K4.out.below e7 K4.out.lt
    obtain ⟨q0, q1, q2, q3, q4, q5, q6⟩ := k7
    clear hb7
    go_wp2_with fail
    refine (heldTold_any _ _ _ _ _ 1 _ _ _ _ _ _ g h mp mz _ (N4.out.below e7) (by omega) (by omega) (by omega) (by omega)).mono ?_
    rintro e w8 ⟨rfl, hb8⟩
    have S8 := S7.trans (hb8.mono S7.size)
    have T8 := T1.trans (S8.mono T1.size)
    have c1 : ¬ ((1 : Int) + T.P.np * 2 + T.P.nz * 3 < 0) := by omega
    have c2 : ((1 : Int) + T.P.np * 2 + T.P.nz * 3 != (1 : Int) + T.P.np * 2 + T.P.nz * 3) = false := by simp
    clear q0 q1 q2 q3 q4 q5 q6 hb8
    go_wp2
    go_ret
    exact ⟨rfl, T8⟩

end Go.Proofs.YteodefmpkljedacDoor
