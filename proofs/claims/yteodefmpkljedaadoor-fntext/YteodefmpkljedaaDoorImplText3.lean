/-
  The program's writer: the text of a right profile (made by gen_impltext3.py).
-/
import Derived.Test.YteodefmpkljedaaDoorImplText2
import Derived.Test.YteodefmpkljedaaDoorLawHelp
namespace Go.Proofs.YteodefmpkljedaaDoor
open Go.RowKit Go.Sort Go.Shelf
set_option linter.unusedVariables false
set_option linter.unusedSimpArgs false

theorem ownF_below {w w1 : World} {base e size n : Nat} {v : Value} {xs : List Value} (h : w.ownsRowF base e size v n xs) (hb : Below w.heap.size w w1) : w1.ownsRowF base e size v n xs := by
  obtain ⟨h1, h2⟩ := h
  refine ⟨h1, ?_⟩
  rcases h2 with h2 | ⟨g, cap, cur, fz, hv, hbg, hg, r⟩
  · exact Or.inl h2
  · exact Or.inr ⟨g, cap, cur, fz, hv, hbg, (hb.block g (Array.getElem?_eq_some_iff.1 hg).1).trans hg, r⟩
theorem atF_below {w w1 : World} {t e B b : Nat} {p : Value} {bs : List Value} (h : Lib.BuilderAtF t e B b p bs w) (hb : Below w.heap.size w w1) : Lib.BuilderAtF t e B b p bs w1 := by
  have hlt := h.lt
  obtain ⟨hB, v, hbk, hown, hne⟩ := h
  exact ⟨hB, v, (hb.block b hlt).trans hbk, ownF_below hown hb, hne⟩
/-- The text's builder: what it holds; what lay ahead of it is as it was. -/
def Bld (W0 : World) (b : Nat) (y : World) (l : List UInt8) : Prop := Below W0.heap.size W0 y ∧ Lib.IsBuilderF 75 5 W0.heap.size b (Lib.byteCells l) y
theorem Bld.below {W0 y y1 : World} {b : Nat} {l : List UInt8} (h : Bld W0 b y l) (hb : Below y.heap.size y y1) : Bld W0 b y1 l :=
  ⟨h.1.trans (hb.mono h.1.size), h.2.elim (fun k => Or.inl (atF_below k hb)) (fun k => Or.inr (atF_below k hb))⟩
theorem Bld.write {W0 y : World} {b : Nat} {l : List UInt8} (h : Bld W0 b y l) (s : List UInt8) (hl : l.length + s.length ≤ 100000) :
    Calls Tryd.prog 35 #[.pointer (some ⟨b, 0, none⟩), .string ⟨s.toArray⟩] y fun e y1 => e = .returned (.tuple #[.int .i64 s.length, .nilIface]) ∧ Bld W0 b y1 (l ++ s) ∧ Lib.OthersKept 5 (some b) y y1 := by
  refine (writeS_any W0.heap.size b (Lib.byteCells l) ⟨s.toArray⟩ y h.2 (by rw [Lib.byteCells_length]; show _ + s.length ≤ _; omega) h.1.size).mono ?_
  rintro e y1 ⟨rfl, h1, h2, h3⟩
  refine ⟨rfl, ⟨h.1.trans h2, Or.inr ?_⟩, h3⟩
  rw [Lib.byteCells_append]
  exact h1
theorem kept_row {y y1 : World} {b X t e n : Nat} {f : Nat → Value} (hk : Lib.OthersKept e (some b) y y1) (hx : y.rowIs X t n f) (hne : X ≠ b) (ht : t ≠ e) : y1.rowIs X t n f := by
  obtain ⟨c, h1, h2, h3⟩ := hx
  exact ⟨c, hk X _ h1 (fun q => hne (Option.some.inj q)) (fun c fz q => by cases q; exact ht rfl), h2, h3⟩
def cell2 (a b : Int) (i : Nat) : Value := if i = 0 then .int .i64 a else .int .i64 b
def cell3 (a b c : Int) (i : Nat) : Value := if i = 0 then .int .i64 a else if i = 1 then .int .i64 b else .int .i64 c

set_option maxRecDepth 20000 in
set_option maxHeartbeats 8000000 in
theorem textOf_any (P : Prof) (v : Value) (w : World) (hl : P.Lies w v) (hok : P.Ok) (hw : WordsAt w) (ht : PowAt w) :
    Calls Tryd.prog 16 #[v] w fun e w' => e = .returned (.string ⟨P.textL.toArray⟩) ∧ Below w.heap.size w w' := by
  have HOK : Hid P.Ok := hok
  obtain ⟨ap, cp, az, cz, rfl, hnp, hnz, hr2, hr3⟩ := hl
  have HR2 : Hid (Row2 w ap P.np P.L P.B) := hr2
  have HR3 : Hid (Row3 w az P.nz P.F P.T P.S) := hr3
  have eB : Hid (∀ args w, (callFunc 36 args).run Tryd.prog w = .ok (.enter 36 args) w) := enters_of Tryd.func36 (by kernel_rfl) rfl
  have eW : Hid (∀ args w, (callFunc 35 args).run Tryd.prog w = .ok (.enter 35 args) w) := enters_of Tryd.func35 (by kernel_rfl) rfl
  have htot := (Prof.total_bounds HOK.out.lens).2
  have HTOT : Hid (P.total ≤ 100000000) := by show P.total ≤ 100000000; omega
  have HPL : Hid (∀ k, k ≤ P.np → (linesTo P.lineP k).length ≤ 2400) := fun k hk => by
    have := linesTo_len (f := P.lineP) (m := 40) k (fun j hj => by
      obtain ⟨⟨_, r1⟩, ⟨_, r3⟩⟩ := HOK.out.pieces j (by omega)
      have g1 := dec_len (x := P.L j) (by omega)
      have g2 := dec_len (x := P.B j) (by omega)
      unfold Prof.lineP
      simp only [List.length_append, List.length_cons, List.length_nil]
      omega)
    have := HOK.out.counts.2.1
    omega
  have HZL : Hid (∀ k, k ≤ P.nz → (linesTo P.lineZ k).length ≤ 3060) := fun k hk => by
    have := linesTo_len (f := P.lineZ) (m := 50) k (fun j hj => by
      obtain ⟨⟨_, r1⟩, ⟨_, r3⟩, ⟨_, r5⟩⟩ := HOK.out.zones j (by omega)
      have g1 := dec_len (x := P.F j) (by omega)
      have g2 := dec_len (x := P.T j) (by omega)
      have g3 := dec_len (x := P.S j) (by omega)
      unfold Prof.lineZ
      simp only [List.length_append, List.length_cons, List.length_nil]
      omega)
    have := HOK.out.counts.2.2
    omega
  have HW : Hid (WordsAt w) := hw
  have HT : Hid (PowAt w) := ht
  clear hr2 hr3 hok hw ht htot
  obtain ⟨W0, hW0⟩ : ∃ W0, w.alloc (.cells #[.slice ap P.np cp, .slice az P.nz cz, .int .i64 P.train, .int .i64 P.fin, .int .i64 P.delay] 26) = W0 := ⟨_, rfl⟩
  obtain ⟨pb, hpb⟩ : ∃ pb, w.heap.size = pb := ⟨_, rfl⟩
  have bW : Below w.heap.size w W0 := by rw [← hW0]; exact (Below.refl _ _).alloc (Nat.le_refl _) _
  have HBX : Hid (P.BoxAt W0 pb ap az cp cz) := by show Prof.BoxAt _ _ _ _ _ _ _; subst hW0 hpb; exact ⟨by go_simp, by go_simp, by go_simp, by go_simp, by go_simp⟩
  have HB0 : Hid (Below w.heap.size w W0) := bW
  obtain ⟨sb, hsb⟩ : ∃ sb, W0.heap.size = sb := ⟨_, rfl⟩
  have HSB : Hid (W0.heap.size = sb) := hsb
  have hsp : sb = pb + 1 := by rw [← hsb, ← hW0, ← hpb]; simp
  obtain ⟨W1, hW1⟩ : ∃ W1, W0.alloc (.cells #[.pointer none, .slice none 0 0] 75) = W1 := ⟨_, rfl⟩
  have HBL1 : Hid (Bld W0 sb W1 []) := by
    show Bld _ _ _ _
    refine ⟨by rw [← hW1]; exact (Below.refl _ _).alloc (Nat.le_refl _) _, Or.inl ⟨by omega, .slice none 0 0, ?_, World.ownsRowF_nil _ _ _ _, by simp [Value.ownBlock]⟩⟩
    rw [← hW1, ← hsb]
    exact Go.Deep.blk_alloc_new _ _
  have HWB : Hid (∀ y l, Bld W0 sb y l → WordsAt y ∧ PowAt y) := fun y l h => ⟨(HW.out.below HB0.out).below h.1, (HT.out.below HB0.out).below h.1⟩
  have HC : Hid (∀ (id : Nat) (x : Int), id < 8 → 0 ≤ x → x ≤ 100000000 → ∀ y l, Bld W0 sb y l → Calls Tryd.prog 36 #[.int .i64 id, .int .i64 x] y fun e w' => e = .returned (.string ⟨(wrd id ++ decL x.toNat).toArray⟩) ∧ Below y.heap.size y w') := fun id x h h0 h1 y l hb => behind_any id h x h0 (by omega) y (HWB.out y l hb).1 (HWB.out y l hb).2
  obtain ⟨x0, x1, x2, x3, x4⟩ := HBX.out.below HBL1.out.1
  clear bW HW HT
  go_enter Tryd.func16, Tryd.ntmps16
  go_wp2_with fail
  clear x0 x1 x2 x3 x4 hW1 hW0 hpb hsb
  go_loopw [11] (fun si wr => ∃ k : Nat, k ≤ P.np ∧ si = .int .i64 k ∧ Hid (Bld W0 sb wr (linesTo P.lineP k))) (fun si _ => P.np - (intOf si).toNat)
  case atStart => exact ⟨0, Nat.zero_le _, rfl, HBL1.out⟩
  case round =>
    obtain ⟨k, hk, rfl, HQ⟩ := hrel
    by_cases hlt : k < P.np
    · have hkI : (k : Int) < (P.np : Int) := by omega
      rcases HR2.out with h0 | ⟨bb, off, rfl, hbb, hcc⟩
      · omega
      obtain ⟨c0, c1⟩ := hcc k hlt
      have T1 := HB0.out.trans (HQ.out.1.mono HB0.out.size)
      have d0 := (T1.cell (p := ⟨bb, off + k * 2, none⟩) hbb).trans c0
      have d1 := (T1.cell (p := ⟨bb, off + k * 2 + 1, none⟩) hbb).trans c1
      obtain ⟨⟨q0, q1⟩, ⟨q2, q3⟩⟩ := HOK.out.pieces k hlt
      have HLN : Hid (P.lineP k = [116, 114, 97, 99, 107, 32] ++ decL (P.L k).toNat ++ [32, 98, 114, 97, 107, 101, 32] ++ decL (P.B k).toNat ++ [10]) := rfl
      clear c0 c1 hcc T1
      go_wp2_with fail
      obtain ⟨X, hX⟩ : ∃ X, wr.heap.size = X := ⟨_, rfl⟩
      rw [hX]
      have hXR := World.rowIs_alloc wr #[.int .i64 (P.L k), .int .i64 (P.B k)] 46 (cell2 (P.L k) (P.B k)) (fun i hi => by simp at hi; match i, hi with | 0, _ => rfl | 1, _ => rfl)
      rw [hX] at hXR
      generalize hW2 : wr.alloc _ = W2
      rw [hW2] at hXR
      have b2 : Below wr.heap.size wr W2 := by rw [← hW2]; exact (Below.refl _ _).alloc (Nat.le_refl _) _
      have HXR : Hid (W2.rowIs X 46 2 (cell2 (P.L k) (P.B k))) := hXR
      have HBL2 : Hid (Bld W0 sb W2 (linesTo P.lineP k)) := HQ.out.below b2
      have HXN : Hid (X ≠ sb) := by
        show X ≠ sb
        have := HQ.out.2.elim (fun q => q.lt) (fun q => q.lt)
        omega
      have HLO0 := HPL.out k (by omega)
      have HKN : Hid (linesTo P.lineP (k + 1) = linesTo P.lineP k ++ P.lineP k) := rfl
      clear hW2 hX d0 d1 HQ b2 hXR
      generalize hO : linesTo P.lineP k = O at *
      obtain ⟨A0, hA0⟩ : ∃ A, wrd 0 ++ decL (P.L k).toNat = A := ⟨_, rfl⟩
      have lA0 : A0.length ≤ 20 := by rw [← hA0, List.length_append]; have := dec_len (x := P.L k) (by omega); simp only [wrd, List.length_cons, List.length_nil]; omega
      have c0 : Hid (∀ y l, Bld W0 sb y l → Calls Tryd.prog 36 #[.int .i64 0, .int .i64 (P.L k)] y fun e w' => e = .returned (.string ⟨A0.toArray⟩) ∧ Below y.heap.size y w') := fun y l h => by rw [← hA0]; exact HC.out 0 _ (by decide) (by omega) (by omega) y l h
      obtain ⟨A1, hA1⟩ : ∃ A, wrd 1 ++ decL (P.B k).toNat = A := ⟨_, rfl⟩
      have lA1 : A1.length ≤ 20 := by rw [← hA1, List.length_append]; have := dec_len (x := P.B k) (by omega); simp only [wrd, List.length_cons, List.length_nil]; omega
      have c1 : Hid (∀ y l, Bld W0 sb y l → Calls Tryd.prog 36 #[.int .i64 1, .int .i64 (P.B k)] y fun e w' => e = .returned (.string ⟨A1.toArray⟩) ∧ Below y.heap.size y w') := fun y l h => by rw [← hA1]; exact HC.out 1 _ (by decide) (by omega) (by omega) y l h
      clear q0 q1 q2 q3
      generalize P.L k = va at *
      generalize P.B k = vb at *
      obtain ⟨s1, hs1⟩ : ∃ s, A0 ++ A1 = s := ⟨_, rfl⟩
      have e1 : (⟨A0.toArray⟩ : ByteArray) ++ ⟨A1.toArray⟩ = ⟨s1.toArray⟩ := by rw [← hs1]; exact bytes_app A0 A1
      have l1 : s1.length = A0.length + A1.length := by rw [← hs1, List.length_append]
      have o1 : ¬ (9223372036854775807 < A0.length + A1.length) := by omega
      obtain ⟨s9, hs9⟩ : ∃ s, s1 ++ [10] = s := ⟨_, rfl⟩
      have e9 : (⟨s1.toArray⟩ : ByteArray) ++ ⟨#[10]⟩ = ⟨s9.toArray⟩ := by rw [← hs9]; exact bytes_app s1 [10]
      have l9 : s9.length = s1.length + 1 := by rw [← hs9, List.length_append]; rfl
      have o9 : ¬ (9223372036854775807 < s1.length + 1) := by omega
      have HL9 : Hid (s9.length ≤ 61) := by show _ ≤ _; omega
      have HLO : Hid (O.length + s9.length ≤ 100000) := by show _ ≤ _; omega
      have HN : Hid (P.lineP k = s9) := by
        show _ = _
        rw [HLN.out, ← hs9, ← hs1, ← hA0, ← hA1]
        simp [wrd]
      clear HLN hA0 lA0 hA1 lA1 hs1 l1 hs9 l9
      have hS : Hid (∀ y l, Bld W0 sb y l → y.rowIs X 46 2 (cell2 va vb) → (fun y : World => y.cell? ⟨X, 0, none⟩ = some (.int .i64 va) ∧ y.cell? ⟨X, 1, none⟩ = some (.int .i64 vb) ∧ y.cell? ⟨0, 7, none⟩ = some (.string ⟨#[10]⟩)) y) := fun y l h r => ⟨r.cell (i := 0) (by omega), r.cell (i := 1) (by omega), (HWB.out y l h).1.2.2 7 (by decide)⟩
      have b0 := HBL2.out.below (Below.refl _ _).drew
      have HC0 : Hid (Bld W0 sb W2.drew O) := b0
      have HR0 : Hid (W2.drew.rowIs X 46 2 (cell2 va vb)) := HXR.out.of_block rfl
      have hS0 : (fun y : World => y.cell? ⟨X, 0, none⟩ = some (.int .i64 va) ∧ y.cell? ⟨X, 1, none⟩ = some (.int .i64 vb) ∧ y.cell? ⟨0, 7, none⟩ = some (.string ⟨#[10]⟩)) W2.drew := hS.out _ _ HC0.out HR0.out
      clear b0 HBL2 HXR
      refine wp_region_held (S := (fun y : World => y.cell? ⟨X, 0, none⟩ = some (.int .i64 va) ∧ y.cell? ⟨X, 1, none⟩ = some (.int .i64 vb) ∧ y.cell? ⟨0, 7, none⟩ = some (.string ⟨#[10]⟩))) (by kernel_rfl) ?_
      change wpAnyH _ _ _ _ _ 11 _ _ W2.drew
      refine wpAnyH_take (i := 0) (v := .pointer (some ⟨X, 0, none⟩)) rfl (by kernel_rfl) (by kernel_rfl) (by kernel_rfl) (fun _ _ _ h => h) (Or.inl ⟨by rfl, fun y hy => ?_⟩) hS0 ?_
      · obtain ⟨k0, k1, kw⟩ := hy
        go_simp
      refine wpAnyH_take (i := 1) (v := .int .i64 va) rfl (by kernel_rfl) (by kernel_rfl) (by kernel_rfl) (fun _ _ _ h => h) (Or.inl ⟨by rfl, fun y hy => ?_⟩) hS0 ?_
      · obtain ⟨k0, k1, kw⟩ := hy
        go_simp
      refine wpAnyH_take (i := 3) (v := .pointer (some ⟨X, 1, none⟩)) rfl (by kernel_rfl) (by kernel_rfl) (by kernel_rfl) (fun _ _ _ h => h) (Or.inl ⟨by rfl, fun y hy => ?_⟩) hS0 ?_
      · obtain ⟨k0, k1, kw⟩ := hy
        go_simp
      refine wpAnyH_take (i := 4) (v := .int .i64 vb) rfl (by kernel_rfl) (by kernel_rfl) (by kernel_rfl) (fun _ _ _ h => h) (Or.inl ⟨by rfl, fun y hy => ?_⟩) hS0 ?_
      · obtain ⟨k0, k1, kw⟩ := hy
        go_simp
      refine wpAnyH_take (i := 7) (v := .pointer (some ⟨0, 7, none⟩)) rfl (by kernel_rfl) (by kernel_rfl) (by kernel_rfl) (fun _ _ _ h => h) (Or.inl ⟨by rfl, fun y hy => ?_⟩) hS0 ?_
      · obtain ⟨k0, k1, kw⟩ := hy
        go_simp
      refine wpAnyH_take (i := 8) (v := .string ⟨#[10]⟩) rfl (by kernel_rfl) (by kernel_rfl) (by kernel_rfl) (fun _ _ _ h => h) (Or.inl ⟨by rfl, fun y hy => ?_⟩) hS0 ?_
      · obtain ⟨k0, k1, kw⟩ := hy
        go_simp
      refine wpAnyH_sole (i := 2) rfl (by kernel_rfl) (fun K hK => ?_)
      refine step_call2 rfl 36 _ (.tmp 16) _ rfl (.int .i64 0) (.int .i64 va) (by rfl) (by simp [Act.eval, Act.put]) eB.out (c0.out _ _ HC0.out) ?_
      rintro e v0 ⟨rfl, hb⟩
      have HC1 : Hid (Bld W0 sb v0 O) := HC0.out.below hb
      have HR1 : Hid (v0.rowIs X 46 2 (cell2 va vb)) := rowIs_below HR0.out hb
      clear hS0
      have hS0 : (fun y : World => y.cell? ⟨X, 0, none⟩ = some (.int .i64 va) ∧ y.cell? ⟨X, 1, none⟩ = some (.int .i64 vb) ∧ y.cell? ⟨0, 7, none⟩ = some (.string ⟨#[10]⟩)) v0 := hS.out _ _ HC1.out HR1.out
      refine ⟨_, rfl, hK _ _ hS0 ?_⟩
      clear hK K hb HC0 c0 HR0
      refine wpAnyH_sole (i := 5) rfl (by kernel_rfl) (fun K hK => ?_)
      refine step_call2 rfl 36 _ (.tmp 19) _ rfl (.int .i64 1) (.int .i64 vb) (by rfl) (by simp [Act.eval, Act.put]) eB.out (c1.out _ _ HC1.out) ?_
      rintro e v1 ⟨rfl, hb⟩
      have HC2 : Hid (Bld W0 sb v1 O) := HC1.out.below hb
      have HR2 : Hid (v1.rowIs X 46 2 (cell2 va vb)) := rowIs_below HR1.out hb
      clear hS0
      have hS0 : (fun y : World => y.cell? ⟨X, 0, none⟩ = some (.int .i64 va) ∧ y.cell? ⟨X, 1, none⟩ = some (.int .i64 vb) ∧ y.cell? ⟨0, 7, none⟩ = some (.string ⟨#[10]⟩)) v1 := hS.out _ _ HC2.out HR2.out
      refine ⟨_, rfl, hK _ _ hS0 ?_⟩
      clear hK K hb HC1 c1 HR1
      refine wpAnyH_take (i := 6) (v := .string ⟨s1.toArray⟩) rfl (by kernel_rfl) (by kernel_rfl) (by kernel_rfl) (fun _ _ _ h => h) (Or.inl ⟨by rfl, fun y hy => ?_⟩) hS0 ?_
      · obtain ⟨k0, k1, kw⟩ := hy
        go_simp
      refine wpAnyH_take (i := 9) (v := .string ⟨s9.toArray⟩) rfl (by kernel_rfl) (by kernel_rfl) (by kernel_rfl) (fun _ _ _ h => h) (Or.inl ⟨by rfl, fun y hy => ?_⟩) hS0 ?_
      · obtain ⟨k0, k1, kw⟩ := hy
        go_simp
      refine wpAnyH_sole (i := 10) rfl (by kernel_rfl) (fun K hK => ?_)
      refine step_call2 rfl 35 (.tmp 3) (.tmp 24) _ rfl (.pointer (some ⟨sb, 0, none⟩)) (.string ⟨s9.toArray⟩) (by simp [Act.eval, Act.put]) (by simp [Act.eval, Act.put]) eW.out (HC2.out.write s9 HLO.out) ?_
      rintro e vz ⟨rfl, hbz, hkz⟩
      have HZ : Hid (Bld W0 sb vz (O ++ s9)) := hbz
      have HRZ := kept_row hkz HR2.out HXN.out (by decide)
      clear hS0
      have hS0 : (fun y : World => y.cell? ⟨X, 0, none⟩ = some (.int .i64 va) ∧ y.cell? ⟨X, 1, none⟩ = some (.int .i64 vb) ∧ y.cell? ⟨0, 7, none⟩ = some (.string ⟨#[10]⟩)) vz := hS.out _ _ HZ.out HRZ
      refine ⟨_, rfl, hK _ _ hS0 ?_⟩
      clear hK K hbz hkz HC2 HR2 HRZ
      refine wpAnyH_done (by kernel_rfl) ?_ _
      clear hS0 hS e1 o1 e9 o9
      go_wp2
      go_roundw
      case rel => exact ⟨k + 1, by omega, by go_num, by rw [HKN.out, HN.out]; exact HZ.out⟩
      case measure => simp [intOf]; omega
    · have hnl : decide ((k : Int) < (P.np : Int)) = false := by simp; omega
      have ek : k = P.np := by omega
      subst ek
      obtain ⟨x0, x1, x2, x3, x4⟩ := HBX.out.below HQ.out.1
      go_wp2_with fail
      clear x0 x1 x2 x3 x4
      have HOL0 := HPL.out P.np (Nat.le_refl _)
      generalize hO0 : linesTo P.lineP P.np = O0 at *
      have HO0 : Hid (linesTo P.lineP P.np = O0) := hO0
      clear hO0 hnl
      generalize wr = wz at *
      have HBLZ : Hid (Bld W0 sb wz (O0 ++ linesTo P.lineZ 0)) := by show Bld _ _ _ _; simpa [linesTo] using HQ.out
      clear HQ
      go_loopw [30] (fun si wr => ∃ k : Nat, k ≤ P.nz ∧ si = .int .i64 k ∧ Hid (Bld W0 sb wr (O0 ++ linesTo P.lineZ k))) (fun si _ => P.nz - (intOf si).toNat)
      case atStart => exact ⟨0, Nat.zero_le _, rfl, HBLZ.out⟩
      case round =>
        obtain ⟨k, hk, rfl, HQ⟩ := hrel
        by_cases hlt : k < P.nz
        · have hkI : (k : Int) < (P.nz : Int) := by omega
          rcases HR3.out with h0 | ⟨bb, off, rfl, hbb, hcc⟩
          · omega
          obtain ⟨c0, c1, c2⟩ := hcc k hlt
          have T1 := HB0.out.trans (HQ.out.1.mono HB0.out.size)
          have d0 := (T1.cell (p := ⟨bb, off + k * 3, none⟩) hbb).trans c0
          have d1 := (T1.cell (p := ⟨bb, off + k * 3 + 1, none⟩) hbb).trans c1
          have d2 := (T1.cell (p := ⟨bb, off + k * 3 + 2, none⟩) hbb).trans c2
          obtain ⟨⟨q0, q1⟩, ⟨q2, q3⟩, ⟨q4, q5⟩⟩ := HOK.out.zones k hlt
          have q6 : P.total ≤ 100000000 := HTOT.out
          have HLN : Hid (P.lineZ k = [108, 105, 109, 105, 116, 32] ++ decL (P.F k).toNat ++ [32] ++ decL (P.T k).toNat ++ [32] ++ decL (P.S k).toNat ++ [10]) := rfl
          clear c0 c1 c2 hcc T1
          go_wp2_with fail
          obtain ⟨X, hX⟩ : ∃ X, wr.heap.size = X := ⟨_, rfl⟩
          rw [hX]
          have hXR := World.rowIs_alloc wr #[.int .i64 (P.F k), .int .i64 (P.T k), .int .i64 (P.S k)] 49 (cell3 (P.F k) (P.T k) (P.S k)) (fun i hi => by simp at hi; match i, hi with | 0, _ => rfl | 1, _ => rfl | 2, _ => rfl)
          rw [hX] at hXR
          generalize hW2 : wr.alloc _ = W2
          rw [hW2] at hXR
          have b2 : Below wr.heap.size wr W2 := by rw [← hW2]; exact (Below.refl _ _).alloc (Nat.le_refl _) _
          have HXR : Hid (W2.rowIs X 49 3 (cell3 (P.F k) (P.T k) (P.S k))) := hXR
          have HBL2 : Hid (Bld W0 sb W2 (O0 ++ linesTo P.lineZ k)) := HQ.out.below b2
          have HXN : Hid (X ≠ sb) := by
            show X ≠ sb
            have := HQ.out.2.elim (fun q => q.lt) (fun q => q.lt)
            omega
          have HLO0 : (O0 ++ linesTo P.lineZ k).length ≤ 5460 := by rw [List.length_append]; have := HZL.out k (by omega); omega
          have HKN : Hid (O0 ++ linesTo P.lineZ (k + 1) = O0 ++ linesTo P.lineZ k ++ P.lineZ k) := (List.append_assoc _ _ _).symm
          clear hW2 hX d0 d1 d2 HQ b2 hXR
          generalize hO : O0 ++ linesTo P.lineZ k = O at *
          obtain ⟨A0, hA0⟩ : ∃ A, wrd 2 ++ decL (P.F k).toNat = A := ⟨_, rfl⟩
          have lA0 : A0.length ≤ 20 := by rw [← hA0, List.length_append]; have := dec_len (x := P.F k) (by omega); simp only [wrd, List.length_cons, List.length_nil]; omega
          have c0 : Hid (∀ y l, Bld W0 sb y l → Calls Tryd.prog 36 #[.int .i64 2, .int .i64 (P.F k)] y fun e w' => e = .returned (.string ⟨A0.toArray⟩) ∧ Below y.heap.size y w') := fun y l h => by rw [← hA0]; exact HC.out 2 _ (by decide) (by omega) (by omega) y l h
          obtain ⟨A1, hA1⟩ : ∃ A, wrd 3 ++ decL (P.T k).toNat = A := ⟨_, rfl⟩
          have lA1 : A1.length ≤ 20 := by rw [← hA1, List.length_append]; have := dec_len (x := P.T k) (by omega); simp only [wrd, List.length_cons, List.length_nil]; omega
          have c1 : Hid (∀ y l, Bld W0 sb y l → Calls Tryd.prog 36 #[.int .i64 3, .int .i64 (P.T k)] y fun e w' => e = .returned (.string ⟨A1.toArray⟩) ∧ Below y.heap.size y w') := fun y l h => by rw [← hA1]; exact HC.out 3 _ (by decide) (by omega) (by omega) y l h
          obtain ⟨A2, hA2⟩ : ∃ A, wrd 3 ++ decL (P.S k).toNat = A := ⟨_, rfl⟩
          have lA2 : A2.length ≤ 20 := by rw [← hA2, List.length_append]; have := dec_len (x := P.S k) (by omega); simp only [wrd, List.length_cons, List.length_nil]; omega
          have c2 : Hid (∀ y l, Bld W0 sb y l → Calls Tryd.prog 36 #[.int .i64 3, .int .i64 (P.S k)] y fun e w' => e = .returned (.string ⟨A2.toArray⟩) ∧ Below y.heap.size y w') := fun y l h => by rw [← hA2]; exact HC.out 3 _ (by decide) (by omega) (by omega) y l h
          clear q0 q1 q2 q3 q4 q5 q6
          generalize P.F k = va at *
          generalize P.T k = vb at *
          generalize P.S k = vc at *
          obtain ⟨s1, hs1⟩ : ∃ s, A0 ++ A1 = s := ⟨_, rfl⟩
          have e1 : (⟨A0.toArray⟩ : ByteArray) ++ ⟨A1.toArray⟩ = ⟨s1.toArray⟩ := by rw [← hs1]; exact bytes_app A0 A1
          have l1 : s1.length = A0.length + A1.length := by rw [← hs1, List.length_append]
          have o1 : ¬ (9223372036854775807 < A0.length + A1.length) := by omega
          obtain ⟨s2, hs2⟩ : ∃ s, s1 ++ A2 = s := ⟨_, rfl⟩
          have e2 : (⟨s1.toArray⟩ : ByteArray) ++ ⟨A2.toArray⟩ = ⟨s2.toArray⟩ := by rw [← hs2]; exact bytes_app s1 A2
          have l2 : s2.length = s1.length + A2.length := by rw [← hs2, List.length_append]
          have o2 : ¬ (9223372036854775807 < s1.length + A2.length) := by omega
          obtain ⟨s9, hs9⟩ : ∃ s, s2 ++ [10] = s := ⟨_, rfl⟩
          have e9 : (⟨s2.toArray⟩ : ByteArray) ++ ⟨#[10]⟩ = ⟨s9.toArray⟩ := by rw [← hs9]; exact bytes_app s2 [10]
          have l9 : s9.length = s2.length + 1 := by rw [← hs9, List.length_append]; rfl
          have o9 : ¬ (9223372036854775807 < s2.length + 1) := by omega
          have HL9 : Hid (s9.length ≤ 61) := by show _ ≤ _; omega
          have HLO : Hid (O.length + s9.length ≤ 100000) := by show _ ≤ _; omega
          have HN : Hid (P.lineZ k = s9) := by
            show _ = _
            rw [HLN.out, ← hs9, ← hs2, ← hs1, ← hA0, ← hA1, ← hA2]
            simp [wrd]
          clear HLN hA0 lA0 hA1 lA1 hA2 lA2 hs1 l1 hs2 l2 hs9 l9
          have hS : Hid (∀ y l, Bld W0 sb y l → y.rowIs X 49 3 (cell3 va vb vc) → (fun y : World => y.cell? ⟨X, 0, none⟩ = some (.int .i64 va) ∧ y.cell? ⟨X, 1, none⟩ = some (.int .i64 vb) ∧ y.cell? ⟨X, 2, none⟩ = some (.int .i64 vc) ∧ y.cell? ⟨0, 7, none⟩ = some (.string ⟨#[10]⟩)) y) := fun y l h r => ⟨r.cell (i := 0) (by omega), r.cell (i := 1) (by omega), r.cell (i := 2) (by omega), (HWB.out y l h).1.2.2 7 (by decide)⟩
          have b0 := HBL2.out.below (Below.refl _ _).drew
          have HC0 : Hid (Bld W0 sb W2.drew O) := b0
          have HR0 : Hid (W2.drew.rowIs X 49 3 (cell3 va vb vc)) := HXR.out.of_block rfl
          have hS0 : (fun y : World => y.cell? ⟨X, 0, none⟩ = some (.int .i64 va) ∧ y.cell? ⟨X, 1, none⟩ = some (.int .i64 vb) ∧ y.cell? ⟨X, 2, none⟩ = some (.int .i64 vc) ∧ y.cell? ⟨0, 7, none⟩ = some (.string ⟨#[10]⟩)) W2.drew := hS.out _ _ HC0.out HR0.out
          clear b0 HBL2 HXR
          refine wp_region_held (S := (fun y : World => y.cell? ⟨X, 0, none⟩ = some (.int .i64 va) ∧ y.cell? ⟨X, 1, none⟩ = some (.int .i64 vb) ∧ y.cell? ⟨X, 2, none⟩ = some (.int .i64 vc) ∧ y.cell? ⟨0, 7, none⟩ = some (.string ⟨#[10]⟩))) (by kernel_rfl) ?_
          change wpAnyH _ _ _ _ _ 15 _ _ W2.drew
          refine wpAnyH_take (i := 0) (v := .pointer (some ⟨X, 0, none⟩)) rfl (by kernel_rfl) (by kernel_rfl) (by kernel_rfl) (fun _ _ _ h => h) (Or.inl ⟨by rfl, fun y hy => ?_⟩) hS0 ?_
          · obtain ⟨k0, k1, k2, kw⟩ := hy
            go_simp
          refine wpAnyH_take (i := 1) (v := .int .i64 va) rfl (by kernel_rfl) (by kernel_rfl) (by kernel_rfl) (fun _ _ _ h => h) (Or.inl ⟨by rfl, fun y hy => ?_⟩) hS0 ?_
          · obtain ⟨k0, k1, k2, kw⟩ := hy
            go_simp
          refine wpAnyH_take (i := 3) (v := .pointer (some ⟨X, 1, none⟩)) rfl (by kernel_rfl) (by kernel_rfl) (by kernel_rfl) (fun _ _ _ h => h) (Or.inl ⟨by rfl, fun y hy => ?_⟩) hS0 ?_
          · obtain ⟨k0, k1, k2, kw⟩ := hy
            go_simp
          refine wpAnyH_take (i := 4) (v := .int .i64 vb) rfl (by kernel_rfl) (by kernel_rfl) (by kernel_rfl) (fun _ _ _ h => h) (Or.inl ⟨by rfl, fun y hy => ?_⟩) hS0 ?_
          · obtain ⟨k0, k1, k2, kw⟩ := hy
            go_simp
          refine wpAnyH_take (i := 7) (v := .pointer (some ⟨X, 2, none⟩)) rfl (by kernel_rfl) (by kernel_rfl) (by kernel_rfl) (fun _ _ _ h => h) (Or.inl ⟨by rfl, fun y hy => ?_⟩) hS0 ?_
          · obtain ⟨k0, k1, k2, kw⟩ := hy
            go_simp
          refine wpAnyH_take (i := 8) (v := .int .i64 vc) rfl (by kernel_rfl) (by kernel_rfl) (by kernel_rfl) (fun _ _ _ h => h) (Or.inl ⟨by rfl, fun y hy => ?_⟩) hS0 ?_
          · obtain ⟨k0, k1, k2, kw⟩ := hy
            go_simp
          refine wpAnyH_take (i := 11) (v := .pointer (some ⟨0, 7, none⟩)) rfl (by kernel_rfl) (by kernel_rfl) (by kernel_rfl) (fun _ _ _ h => h) (Or.inl ⟨by rfl, fun y hy => ?_⟩) hS0 ?_
          · obtain ⟨k0, k1, k2, kw⟩ := hy
            go_simp
          refine wpAnyH_take (i := 12) (v := .string ⟨#[10]⟩) rfl (by kernel_rfl) (by kernel_rfl) (by kernel_rfl) (fun _ _ _ h => h) (Or.inl ⟨by rfl, fun y hy => ?_⟩) hS0 ?_
          · obtain ⟨k0, k1, k2, kw⟩ := hy
            go_simp
          refine wpAnyH_sole (i := 2) rfl (by kernel_rfl) (fun K hK => ?_)
          refine step_call2 rfl 36 _ (.tmp 35) _ rfl (.int .i64 2) (.int .i64 va) (by rfl) (by simp [Act.eval, Act.put]) eB.out (c0.out _ _ HC0.out) ?_
          rintro e v0 ⟨rfl, hb⟩
          have HC1 : Hid (Bld W0 sb v0 O) := HC0.out.below hb
          have HR1 : Hid (v0.rowIs X 49 3 (cell3 va vb vc)) := rowIs_below HR0.out hb
          clear hS0
          have hS0 : (fun y : World => y.cell? ⟨X, 0, none⟩ = some (.int .i64 va) ∧ y.cell? ⟨X, 1, none⟩ = some (.int .i64 vb) ∧ y.cell? ⟨X, 2, none⟩ = some (.int .i64 vc) ∧ y.cell? ⟨0, 7, none⟩ = some (.string ⟨#[10]⟩)) v0 := hS.out _ _ HC1.out HR1.out
          refine ⟨_, rfl, hK _ _ hS0 ?_⟩
          clear hK K hb HC0 c0 HR0
          refine wpAnyH_sole (i := 5) rfl (by kernel_rfl) (fun K hK => ?_)
          refine step_call2 rfl 36 _ (.tmp 38) _ rfl (.int .i64 3) (.int .i64 vb) (by rfl) (by simp [Act.eval, Act.put]) eB.out (c1.out _ _ HC1.out) ?_
          rintro e v1 ⟨rfl, hb⟩
          have HC2 : Hid (Bld W0 sb v1 O) := HC1.out.below hb
          have HR2 : Hid (v1.rowIs X 49 3 (cell3 va vb vc)) := rowIs_below HR1.out hb
          clear hS0
          have hS0 : (fun y : World => y.cell? ⟨X, 0, none⟩ = some (.int .i64 va) ∧ y.cell? ⟨X, 1, none⟩ = some (.int .i64 vb) ∧ y.cell? ⟨X, 2, none⟩ = some (.int .i64 vc) ∧ y.cell? ⟨0, 7, none⟩ = some (.string ⟨#[10]⟩)) v1 := hS.out _ _ HC2.out HR2.out
          refine ⟨_, rfl, hK _ _ hS0 ?_⟩
          clear hK K hb HC1 c1 HR1
          refine wpAnyH_take (i := 6) (v := .string ⟨s1.toArray⟩) rfl (by kernel_rfl) (by kernel_rfl) (by kernel_rfl) (fun _ _ _ h => h) (Or.inl ⟨by rfl, fun y hy => ?_⟩) hS0 ?_
          · obtain ⟨k0, k1, k2, kw⟩ := hy
            go_simp
          refine wpAnyH_sole (i := 9) rfl (by kernel_rfl) (fun K hK => ?_)
          refine step_call2 rfl 36 _ (.tmp 42) _ rfl (.int .i64 3) (.int .i64 vc) (by rfl) (by simp [Act.eval, Act.put]) eB.out (c2.out _ _ HC2.out) ?_
          rintro e v2 ⟨rfl, hb⟩
          have HC3 : Hid (Bld W0 sb v2 O) := HC2.out.below hb
          have HR3 : Hid (v2.rowIs X 49 3 (cell3 va vb vc)) := rowIs_below HR2.out hb
          clear hS0
          have hS0 : (fun y : World => y.cell? ⟨X, 0, none⟩ = some (.int .i64 va) ∧ y.cell? ⟨X, 1, none⟩ = some (.int .i64 vb) ∧ y.cell? ⟨X, 2, none⟩ = some (.int .i64 vc) ∧ y.cell? ⟨0, 7, none⟩ = some (.string ⟨#[10]⟩)) v2 := hS.out _ _ HC3.out HR3.out
          refine ⟨_, rfl, hK _ _ hS0 ?_⟩
          clear hK K hb HC2 c2 HR2
          refine wpAnyH_take (i := 10) (v := .string ⟨s2.toArray⟩) rfl (by kernel_rfl) (by kernel_rfl) (by kernel_rfl) (fun _ _ _ h => h) (Or.inl ⟨by rfl, fun y hy => ?_⟩) hS0 ?_
          · obtain ⟨k0, k1, k2, kw⟩ := hy
            go_simp
          refine wpAnyH_take (i := 13) (v := .string ⟨s9.toArray⟩) rfl (by kernel_rfl) (by kernel_rfl) (by kernel_rfl) (fun _ _ _ h => h) (Or.inl ⟨by rfl, fun y hy => ?_⟩) hS0 ?_
          · obtain ⟨k0, k1, k2, kw⟩ := hy
            go_simp
          refine wpAnyH_sole (i := 14) rfl (by kernel_rfl) (fun K hK => ?_)
          refine step_call2 rfl 35 (.tmp 3) (.tmp 47) _ rfl (.pointer (some ⟨sb, 0, none⟩)) (.string ⟨s9.toArray⟩) (by simp [Act.eval, Act.put]) (by simp [Act.eval, Act.put]) eW.out (HC3.out.write s9 HLO.out) ?_
          rintro e vz ⟨rfl, hbz, hkz⟩
          have HZ : Hid (Bld W0 sb vz (O ++ s9)) := hbz
          have HRZ := kept_row hkz HR3.out HXN.out (by decide)
          clear hS0
          have hS0 : (fun y : World => y.cell? ⟨X, 0, none⟩ = some (.int .i64 va) ∧ y.cell? ⟨X, 1, none⟩ = some (.int .i64 vb) ∧ y.cell? ⟨X, 2, none⟩ = some (.int .i64 vc) ∧ y.cell? ⟨0, 7, none⟩ = some (.string ⟨#[10]⟩)) vz := hS.out _ _ HZ.out HRZ
          refine ⟨_, rfl, hK _ _ hS0 ?_⟩
          clear hK K hbz hkz HC3 HR3 HRZ
          refine wpAnyH_done (by kernel_rfl) ?_ _
          clear hS0 hS e1 o1 e2 o2 e9 o9
          go_wp2
          go_roundw
          case rel => exact ⟨k + 1, by omega, by go_num, by rw [HKN.out, HN.out]; exact HZ.out⟩
          case measure => simp [intOf]; omega
        · have hnl : decide ((k : Int) < (P.nz : Int)) = false := by simp; omega
          have ek : k = P.nz := by omega
          subst ek
          go_wp2_with fail
          have HBL2 : Hid (Bld W0 sb wr (O0 ++ linesTo P.lineZ P.nz)) := HQ.out
          have HLO0 : (O0 ++ linesTo P.lineZ P.nz).length ≤ 5460 := by rw [List.length_append]; have := HZL.out P.nz (by omega); omega
          have HKN : Hid (P.textL = O0 ++ linesTo P.lineZ P.nz ++ P.lineT) := by show _ = _; rw [Prof.textL, HO0.out]
          have HLN : Hid (P.lineT = [116, 114, 97, 105, 110, 32] ++ decL P.train.toNat ++ [32, 101, 110, 100, 32] ++ decL P.fin.toNat ++ [32, 100, 101, 108, 97, 121, 32] ++ decL P.delay.toNat ++ [10]) := rfl
          obtain ⟨q0, q1⟩ := HOK.out.train
          obtain ⟨q2, q3⟩ := HOK.out.fin
          obtain ⟨q4, q5⟩ := HOK.out.delay
          have q6 : P.total ≤ 100000000 := HTOT.out
          clear HQ hnl
          generalize hO : O0 ++ linesTo P.lineZ P.nz = O at *
          generalize wr = W2 at *
          obtain ⟨A0, hA0⟩ : ∃ A, wrd 4 ++ decL (P.train).toNat = A := ⟨_, rfl⟩
          have lA0 : A0.length ≤ 20 := by rw [← hA0, List.length_append]; have := dec_len (x := P.train) (by omega); simp only [wrd, List.length_cons, List.length_nil]; omega
          have c0 : Hid (∀ y l, Bld W0 sb y l → Calls Tryd.prog 36 #[.int .i64 4, .int .i64 (P.train)] y fun e w' => e = .returned (.string ⟨A0.toArray⟩) ∧ Below y.heap.size y w') := fun y l h => by rw [← hA0]; exact HC.out 4 _ (by decide) (by omega) (by omega) y l h
          obtain ⟨A1, hA1⟩ : ∃ A, wrd 5 ++ decL (P.fin).toNat = A := ⟨_, rfl⟩
          have lA1 : A1.length ≤ 20 := by rw [← hA1, List.length_append]; have := dec_len (x := P.fin) (by omega); simp only [wrd, List.length_cons, List.length_nil]; omega
          have c1 : Hid (∀ y l, Bld W0 sb y l → Calls Tryd.prog 36 #[.int .i64 5, .int .i64 (P.fin)] y fun e w' => e = .returned (.string ⟨A1.toArray⟩) ∧ Below y.heap.size y w') := fun y l h => by rw [← hA1]; exact HC.out 5 _ (by decide) (by omega) (by omega) y l h
          obtain ⟨A2, hA2⟩ : ∃ A, wrd 6 ++ decL (P.delay).toNat = A := ⟨_, rfl⟩
          have lA2 : A2.length ≤ 20 := by rw [← hA2, List.length_append]; have := dec_len (x := P.delay) (by omega); simp only [wrd, List.length_cons, List.length_nil]; omega
          have c2 : Hid (∀ y l, Bld W0 sb y l → Calls Tryd.prog 36 #[.int .i64 6, .int .i64 (P.delay)] y fun e w' => e = .returned (.string ⟨A2.toArray⟩) ∧ Below y.heap.size y w') := fun y l h => by rw [← hA2]; exact HC.out 6 _ (by decide) (by omega) (by omega) y l h
          clear q0 q1 q2 q3 q4 q5 q6
          have HBC : Hid (∀ y l, Bld W0 sb y l → y.cell? ⟨pb, 2, none⟩ = some (.int .i64 P.train) ∧ y.cell? ⟨pb, 3, none⟩ = some (.int .i64 P.fin) ∧ y.cell? ⟨pb, 4, none⟩ = some (.int .i64 P.delay)) := fun y l h => by
            obtain ⟨_, _, q2, q3, q4⟩ := HBX.out.below h.1
            exact ⟨q2, q3, q4⟩
          generalize P.train = va at *
          generalize P.fin = vb at *
          generalize P.delay = vc at *
          obtain ⟨s1, hs1⟩ : ∃ s, A0 ++ A1 = s := ⟨_, rfl⟩
          have e1 : (⟨A0.toArray⟩ : ByteArray) ++ ⟨A1.toArray⟩ = ⟨s1.toArray⟩ := by rw [← hs1]; exact bytes_app A0 A1
          have l1 : s1.length = A0.length + A1.length := by rw [← hs1, List.length_append]
          have o1 : ¬ (9223372036854775807 < A0.length + A1.length) := by omega
          obtain ⟨s2, hs2⟩ : ∃ s, s1 ++ A2 = s := ⟨_, rfl⟩
          have e2 : (⟨s1.toArray⟩ : ByteArray) ++ ⟨A2.toArray⟩ = ⟨s2.toArray⟩ := by rw [← hs2]; exact bytes_app s1 A2
          have l2 : s2.length = s1.length + A2.length := by rw [← hs2, List.length_append]
          have o2 : ¬ (9223372036854775807 < s1.length + A2.length) := by omega
          obtain ⟨s9, hs9⟩ : ∃ s, s2 ++ [10] = s := ⟨_, rfl⟩
          have e9 : (⟨s2.toArray⟩ : ByteArray) ++ ⟨#[10]⟩ = ⟨s9.toArray⟩ := by rw [← hs9]; exact bytes_app s2 [10]
          have l9 : s9.length = s2.length + 1 := by rw [← hs9, List.length_append]; rfl
          have o9 : ¬ (9223372036854775807 < s2.length + 1) := by omega
          have HL9 : Hid (s9.length ≤ 61) := by show _ ≤ _; omega
          have HLO : Hid (O.length + s9.length ≤ 100000) := by show _ ≤ _; omega
          have HN : Hid (P.lineT = s9) := by
            show _ = _
            rw [HLN.out, ← hs9, ← hs2, ← hs1, ← hA0, ← hA1, ← hA2]
            simp [wrd]
          clear HLN hA0 lA0 hA1 lA1 hA2 lA2 hs1 l1 hs2 l2 hs9 l9
          have hS : Hid (∀ y l, Bld W0 sb y l → (fun y : World => y.cell? ⟨pb, 2, none⟩ = some (.int .i64 va) ∧ y.cell? ⟨pb, 3, none⟩ = some (.int .i64 vb) ∧ y.cell? ⟨pb, 4, none⟩ = some (.int .i64 vc) ∧ y.cell? ⟨0, 7, none⟩ = some (.string ⟨#[10]⟩)) y) := fun y l h => by
            obtain ⟨q2, q3, q4⟩ := HBC.out y l h
            exact ⟨q2, q3, q4, (HWB.out y l h).1.2.2 7 (by decide)⟩
          have b0 := HBL2.out.below (Below.refl _ _).drew
          have HC0 : Hid (Bld W0 sb W2.drew O) := b0
          have hS0 : (fun y : World => y.cell? ⟨pb, 2, none⟩ = some (.int .i64 va) ∧ y.cell? ⟨pb, 3, none⟩ = some (.int .i64 vb) ∧ y.cell? ⟨pb, 4, none⟩ = some (.int .i64 vc) ∧ y.cell? ⟨0, 7, none⟩ = some (.string ⟨#[10]⟩)) W2.drew := hS.out _ _ HC0.out
          clear b0 HBL2
          refine wp_region_held (S := (fun y : World => y.cell? ⟨pb, 2, none⟩ = some (.int .i64 va) ∧ y.cell? ⟨pb, 3, none⟩ = some (.int .i64 vb) ∧ y.cell? ⟨pb, 4, none⟩ = some (.int .i64 vc) ∧ y.cell? ⟨0, 7, none⟩ = some (.string ⟨#[10]⟩))) (by kernel_rfl) ?_
          change wpAnyH _ _ _ _ _ 15 _ _ W2.drew
          refine wpAnyH_take (i := 0) (v := .pointer (some ⟨pb, 2, none⟩)) rfl (by kernel_rfl) (by kernel_rfl) (by kernel_rfl) (fun _ _ _ h => h) (Or.inl ⟨by rfl, fun y hy => ?_⟩) hS0 ?_
          · obtain ⟨k0, k1, k2, kw⟩ := hy
            go_simp
          refine wpAnyH_take (i := 1) (v := .int .i64 va) rfl (by kernel_rfl) (by kernel_rfl) (by kernel_rfl) (fun _ _ _ h => h) (Or.inl ⟨by rfl, fun y hy => ?_⟩) hS0 ?_
          · obtain ⟨k0, k1, k2, kw⟩ := hy
            go_simp
          refine wpAnyH_take (i := 3) (v := .pointer (some ⟨pb, 3, none⟩)) rfl (by kernel_rfl) (by kernel_rfl) (by kernel_rfl) (fun _ _ _ h => h) (Or.inl ⟨by rfl, fun y hy => ?_⟩) hS0 ?_
          · obtain ⟨k0, k1, k2, kw⟩ := hy
            go_simp
          refine wpAnyH_take (i := 4) (v := .int .i64 vb) rfl (by kernel_rfl) (by kernel_rfl) (by kernel_rfl) (fun _ _ _ h => h) (Or.inl ⟨by rfl, fun y hy => ?_⟩) hS0 ?_
          · obtain ⟨k0, k1, k2, kw⟩ := hy
            go_simp
          refine wpAnyH_take (i := 7) (v := .pointer (some ⟨pb, 4, none⟩)) rfl (by kernel_rfl) (by kernel_rfl) (by kernel_rfl) (fun _ _ _ h => h) (Or.inl ⟨by rfl, fun y hy => ?_⟩) hS0 ?_
          · obtain ⟨k0, k1, k2, kw⟩ := hy
            go_simp
          refine wpAnyH_take (i := 8) (v := .int .i64 vc) rfl (by kernel_rfl) (by kernel_rfl) (by kernel_rfl) (fun _ _ _ h => h) (Or.inl ⟨by rfl, fun y hy => ?_⟩) hS0 ?_
          · obtain ⟨k0, k1, k2, kw⟩ := hy
            go_simp
          refine wpAnyH_take (i := 11) (v := .pointer (some ⟨0, 7, none⟩)) rfl (by kernel_rfl) (by kernel_rfl) (by kernel_rfl) (fun _ _ _ h => h) (Or.inl ⟨by rfl, fun y hy => ?_⟩) hS0 ?_
          · obtain ⟨k0, k1, k2, kw⟩ := hy
            go_simp
          refine wpAnyH_take (i := 12) (v := .string ⟨#[10]⟩) rfl (by kernel_rfl) (by kernel_rfl) (by kernel_rfl) (fun _ _ _ h => h) (Or.inl ⟨by rfl, fun y hy => ?_⟩) hS0 ?_
          · obtain ⟨k0, k1, k2, kw⟩ := hy
            go_simp
          refine wpAnyH_sole (i := 2) rfl (by kernel_rfl) (fun K hK => ?_)
          refine step_call2 rfl 36 _ (.tmp 51) _ rfl (.int .i64 4) (.int .i64 va) (by rfl) (by simp [Act.eval, Act.put]) eB.out (c0.out _ _ HC0.out) ?_
          rintro e v0 ⟨rfl, hb⟩
          have HC1 : Hid (Bld W0 sb v0 O) := HC0.out.below hb
          clear hS0
          have hS0 : (fun y : World => y.cell? ⟨pb, 2, none⟩ = some (.int .i64 va) ∧ y.cell? ⟨pb, 3, none⟩ = some (.int .i64 vb) ∧ y.cell? ⟨pb, 4, none⟩ = some (.int .i64 vc) ∧ y.cell? ⟨0, 7, none⟩ = some (.string ⟨#[10]⟩)) v0 := hS.out _ _ HC1.out
          refine ⟨_, rfl, hK _ _ hS0 ?_⟩
          clear hK K hb HC0 c0
          refine wpAnyH_sole (i := 5) rfl (by kernel_rfl) (fun K hK => ?_)
          refine step_call2 rfl 36 _ (.tmp 54) _ rfl (.int .i64 5) (.int .i64 vb) (by rfl) (by simp [Act.eval, Act.put]) eB.out (c1.out _ _ HC1.out) ?_
          rintro e v1 ⟨rfl, hb⟩
          have HC2 : Hid (Bld W0 sb v1 O) := HC1.out.below hb
          clear hS0
          have hS0 : (fun y : World => y.cell? ⟨pb, 2, none⟩ = some (.int .i64 va) ∧ y.cell? ⟨pb, 3, none⟩ = some (.int .i64 vb) ∧ y.cell? ⟨pb, 4, none⟩ = some (.int .i64 vc) ∧ y.cell? ⟨0, 7, none⟩ = some (.string ⟨#[10]⟩)) v1 := hS.out _ _ HC2.out
          refine ⟨_, rfl, hK _ _ hS0 ?_⟩
          clear hK K hb HC1 c1
          refine wpAnyH_take (i := 6) (v := .string ⟨s1.toArray⟩) rfl (by kernel_rfl) (by kernel_rfl) (by kernel_rfl) (fun _ _ _ h => h) (Or.inl ⟨by rfl, fun y hy => ?_⟩) hS0 ?_
          · obtain ⟨k0, k1, k2, kw⟩ := hy
            go_simp
          refine wpAnyH_sole (i := 9) rfl (by kernel_rfl) (fun K hK => ?_)
          refine step_call2 rfl 36 _ (.tmp 58) _ rfl (.int .i64 6) (.int .i64 vc) (by rfl) (by simp [Act.eval, Act.put]) eB.out (c2.out _ _ HC2.out) ?_
          rintro e v2 ⟨rfl, hb⟩
          have HC3 : Hid (Bld W0 sb v2 O) := HC2.out.below hb
          clear hS0
          have hS0 : (fun y : World => y.cell? ⟨pb, 2, none⟩ = some (.int .i64 va) ∧ y.cell? ⟨pb, 3, none⟩ = some (.int .i64 vb) ∧ y.cell? ⟨pb, 4, none⟩ = some (.int .i64 vc) ∧ y.cell? ⟨0, 7, none⟩ = some (.string ⟨#[10]⟩)) v2 := hS.out _ _ HC3.out
          refine ⟨_, rfl, hK _ _ hS0 ?_⟩
          clear hK K hb HC2 c2
          refine wpAnyH_take (i := 10) (v := .string ⟨s2.toArray⟩) rfl (by kernel_rfl) (by kernel_rfl) (by kernel_rfl) (fun _ _ _ h => h) (Or.inl ⟨by rfl, fun y hy => ?_⟩) hS0 ?_
          · obtain ⟨k0, k1, k2, kw⟩ := hy
            go_simp
          refine wpAnyH_take (i := 13) (v := .string ⟨s9.toArray⟩) rfl (by kernel_rfl) (by kernel_rfl) (by kernel_rfl) (fun _ _ _ h => h) (Or.inl ⟨by rfl, fun y hy => ?_⟩) hS0 ?_
          · obtain ⟨k0, k1, k2, kw⟩ := hy
            go_simp
          refine wpAnyH_sole (i := 14) rfl (by kernel_rfl) (fun K hK => ?_)
          refine step_call2 rfl 35 (.tmp 3) (.tmp 63) _ rfl (.pointer (some ⟨sb, 0, none⟩)) (.string ⟨s9.toArray⟩) (by simp [Act.eval, Act.put]) (by simp [Act.eval, Act.put]) eW.out (HC3.out.write s9 HLO.out) ?_
          rintro e vz ⟨rfl, hbz, hkz⟩
          have HZ : Hid (Bld W0 sb vz (O ++ s9)) := hbz
          clear hS0
          have hS0 : (fun y : World => y.cell? ⟨pb, 2, none⟩ = some (.int .i64 va) ∧ y.cell? ⟨pb, 3, none⟩ = some (.int .i64 vb) ∧ y.cell? ⟨pb, 4, none⟩ = some (.int .i64 vc) ∧ y.cell? ⟨0, 7, none⟩ = some (.string ⟨#[10]⟩)) vz := hS.out _ _ HZ.out
          refine ⟨_, rfl, hK _ _ hS0 ?_⟩
          clear hK K hbz hkz HC3
          refine wpAnyH_done (by kernel_rfl) ?_ _
          clear hS0 hS e1 o1 e2 o2 e9 o9
          go_wp2_with fail
          rw [← hsp]
          refine (string_any W0.heap.size sb (O ++ s9) _ HZ.out.2 HZ.out.1.size).mono ?_
          rintro e v9 ⟨rfl, hb9⟩
          have T9 := HB0.out.trans ((HZ.out.1.trans hb9).mono HB0.out.size)
          go_wp2
          go_ret
          exact ⟨by rw [HKN.out, HN.out]; rfl, T9⟩

end Go.Proofs.YteodefmpkljedaaDoor
