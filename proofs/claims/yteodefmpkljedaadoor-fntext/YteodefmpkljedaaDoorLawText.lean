/-
  The law FnText, walked.
-/
import Derived.Test.YteodefmpkljedaaDoorImplText4
import Derived.Test.YteodefmpkljedaaDoorImplRead8
import Derived.Test.YteodefmpkljedaaDoorToldBox
import Derived.Test.YteodefmpkljedaaDoorWProf
import Derived.Test.YteodefmpkljedaaDoorBytes2
namespace Go.Proofs.YteodefmpkljedaaDoor
open Go.RowKit Go.Sort Go.Shelf
set_option linter.unusedVariables false
set_option linter.unusedSimpArgs false

theorem slice_to (t : List UInt8) (i : Nat) (hi : i ≤ t.length) (w : World) : (Instr.slice 9 (.string ⟨t.toArray⟩) none (some (.int .i64 i)) none).run Tryd.prog w = .ok (.string ⟨(t.take i).toArray⟩) w := by
  have hs : (⟨t.toArray⟩ : ByteArray).size = t.length := by show t.toArray.size = _; simp
  rw [run_slice_string_h w 9 _ Tryd.underlying9 .i64 (i : Int) (by omega) (by omega)]
  congr 2
  apply ByteArray.ext
  simp [ByteArray.data_extract]

set_option maxRecDepth 20000 in
set_option maxHeartbeats 8000000 in
theorem fnText_any (a0 a1 : Option Addr) (len0 cap0 len1 cap1 : Nat) (w : World) (h0 : RowOk w a0 len0) (h1 : RowOk w a1 len1) (hw : WordsAt w) (ht : PowAt w) (hE : ErrT w) :
    Calls Tryd.prog 3 #[.slice a0 len0 cap0, .slice a1 len1 cap1] w fun e w' => e = .returned (.bool true) ∧ Below w.heap.size w w' := by
  have HR0 : Hid (RowOk w a0 len0) := h0
  have HR1 : Hid (RowOk w a1 len1) := h1
  have HW : Hid (WordsAt w) := hw
  have HT : Hid (PowAt w) := ht
  have HE : Hid (ErrT w) := hE
  have hmax0 : len0 ≤ 9223372036854775807 := by have := h0.1; unfold maxLen at this; omega
  have hmax1 : len1 ≤ 9223372036854775807 := by have := h1.1; unfold maxLen at this; omega
  clear h0 h1 hw ht hE
  by_cases hb0 : 1048576 < len0
  · have hb0' : (1048576 : Int) < (len0 : Int) := by omega
    go_enter Tryd.func3, Tryd.ntmps3
    go_wp2
    go_ret
    exact ⟨rfl, Below.refl _ _⟩
  have hb0' : ¬ (1048576 : Int) < (len0 : Int) := by omega
  by_cases hb1 : 1048576 < len1
  · have hb1' : (1048576 : Int) < (len1 : Int) := by omega
    go_enter Tryd.func3, Tryd.ntmps3
    go_wp2
    go_ret
    exact ⟨rfl, Below.refl _ _⟩
  have hb1' : ¬ (1048576 : Int) < (len1 : Int) := by omega
  obtain ⟨P, x, n3, z3, hok, _, _, _, HPr⟩ := drawn_any cap0 HR0.out (by omega)
  have HOK : Hid P.Ok := hok
  have HCN : Hid (P.np ≤ 60 ∧ P.nz ≤ 60) := ⟨hok.counts.2.1, hok.counts.2.2⟩
  obtain ⟨y0, y00, y01, hy0⟩ := wByte_one HR1.out 0 (by omega) (by omega) cap1
  obtain ⟨y1, y10, y11, hy1⟩ := wByte_one HR1.out 1 (by omega) (by omega) cap1
  obtain ⟨y2, y20, y21, hy2⟩ := wByte_one HR1.out 2 (by omega) (by omega) cap1
  have HY0 : Hid (∀ w1, Below w.heap.size w w1 → Calls Tryd.prog 9 #[.slice a1 len1 cap1, .int .i64 0] w1 fun e w' => e = .returned (.int .i64 y0) ∧ w' = w1) := hy0
  have HY1 : Hid (∀ w1, Below w.heap.size w w1 → Calls Tryd.prog 9 #[.slice a1 len1 cap1, .int .i64 1] w1 fun e w' => e = .returned (.int .i64 y1) ∧ w' = w1) := hy1
  have HY2 : Hid (∀ w1, Below w.heap.size w w1 → Calls Tryd.prog 9 #[.slice a1 len1 cap1, .int .i64 2] w1 fun e w' => e = .returned (.int .i64 y2) ∧ w' = w1) := hy2
  clear hok hy0 hy1 hy2
  go_enter Tryd.func3, Tryd.ntmps3
  go_wp2_with fail
  refine (HPr.out _ (Below.refl _ _)).mono ?_
  rintro e w1 ⟨ap, cp, az, cz, a3, c3, rfl, hl1, _, hb1⟩
  have HL1 : Hid (P.Lies w1 (.agg #[.slice ap P.np cp, .slice az P.nz cz, .int .i64 P.train, .int .i64 P.fin, .int .i64 P.delay])) := hl1
  clear hl1
  go_wp2_with fail
  obtain ⟨pb, hpb⟩ : ∃ pb, w1.heap.size = pb := ⟨_, rfl⟩
  rw [hpb]
  generalize hW1 : w1.alloc _ = W1
  have bq : Below w1.heap.size w1 W1 := by rw [← hW1]; exact (Below.refl _ _).alloc (Nat.le_refl _) _
  have hbox : P.BoxAt W1 pb ap az cp cz := by subst hW1 hpb; exact ⟨by go_simp, by go_simp, by go_simp, by go_simp, by go_simp⟩
  have HL : Hid (P.Lies W1 (.agg #[.slice ap P.np cp, .slice az P.nz cz, .int .i64 P.train, .int .i64 P.fin, .int .i64 P.delay])) := HL1.out.below bq
  have B1 := hb1.trans (bq.mono hb1.size)
  have HB1 : Hid (Below w.heap.size w W1) := B1
  have HB : Hid (P.BoxAt W1 pb ap az cp cz) := hbox
  clear hW1 bq hbox hb1 HL1 hpb HPr B1
  refine (implWrite_any P _ _ HL.out (HW.out.below HB1.out) (HT.out.below HB1.out)).mono ?_
  rintro e w2 ⟨rfl, T2⟩
  have S2 : Hid (Below W1.heap.size W1 w2) := T2
  obtain ⟨x0, x1, x2, x3, x4⟩ := HB.out.below T2
  clear T2
  by_cases hA : P.textAns = []
  · have HA : Hid (P.textAns = []) := hA
    rw [hA]
    clear hA
    go_wp2_with fail
    refine (specWrite_any P _ _ (HL.out.below S2.out)).mono ?_
    rintro e w3 ⟨rfl, hb3⟩
    rw [HA.out]
    go_wp2
    go_ret
    exact ⟨rfl, HB1.out.trans ((S2.out.trans (hb3.mono S2.out.size)).mono HB1.out.size)⟩
  obtain ⟨L, hL⟩ : ∃ L, P.textL = L := ⟨_, rfl⟩
  have hAL : P.code = 0 ∧ P.textL.length ≤ 3000 := by
    by_cases c : P.code = 0 ∧ P.textL.length ≤ 3000
    · exact c
    · exact absurd (by rw [Prof.textAns, if_neg c]) hA
  have hTA : P.textAns = L := by rw [Prof.textAns, if_pos hAL, hL]
  have hlen : L.length ≤ 3000 := by rw [← hL]; exact hAL.2
  have hne0 : L ≠ [] := fun q => hA (hTA.trans q)
  have hpos : 1 ≤ L.length := by
    rcases L with _ | ⟨c, r⟩
    · exact absurd rfl hne0
    · simp
  have HA : Hid (P.textAns = L) := hTA
  have hs0 : L.isEmpty = false := by simpa using hne0
  have HCUT : Hid (∀ k, k < L.length → told (L.take k) = ⟨1, k, zeroP⟩) := fun k hk => by subst hL; exact told_cut HOK.out hAL.2 hk
  have HINV : Hid (∀ x, (told x).code = 0 → Same (told x).P P → x = L) := fun x q1 q2 => by subst hL; exact told_inv q1 q2
  have HTT : Hid ((told L).code = 0 ∧ Same (told L).P P) := by subst hL; exact told_text HOK.out hAL.2
  have HI : Hid (∀ (t : List UInt8) y, t.length ≤ 3000 → WordsAt y → ErrT y → Calls Tryd.prog 7 #[.string ⟨t.toArray⟩] y fun e w' => ∃ sp sz, e = .returned ((told t).val sp sz) ∧ (told t).Owned y.heap.size w' sp sz ∧ Below y.heap.size y w') := fun t y q h1 h2 => implRead_any t y h1 h2 (by omega)
  have HB2 : Hid (Below w.heap.size w w2) := HB1.out.trans (S2.out.mono HB1.out.size)
  rw [hTA]
  clear hA hAL hTA hL hne0
  have hn := told_few L
  have HN : Hid ((told L).P.np ≤ 60 ∧ (told L).P.nz ≤ 60) := hn
  have HI0 := HI.out L w2 hlen (HW.out.below HB2.out) (HE.out.below HB2.out)
  generalize told L = T at HI0 HTT HN hn
  go_wp2_with fail
  refine HI0.mono ?_
  clear x0 x1 x2 x3 x4 HI0
  rintro e w3 ⟨sp, sz, rfl, ho3, hb3⟩
  obtain ⟨tp, tcp, rfl, _⟩ := owned_shape ho3.1
  obtain ⟨tz, tcz, rfl, _⟩ := owned_shape ho3.2
  obtain ⟨b3, hB3⟩ : ∃ b3, w3.heap.size = b3 := ⟨_, rfl⟩
  obtain ⟨W3, hW3⟩ : ∃ W3, w3.alloc (.cells #[.int .i64 T.code, .int .i64 T.at_, .slice tp T.P.np tcp, .slice tz T.P.nz tcz, .int .i64 T.P.train, .int .i64 T.P.fin, .int .i64 T.P.delay] 32) = W3 := ⟨_, rfl⟩
  have bx3 : Below w3.heap.size w3 W3 := by rw [← hW3]; exact (Below.refl _ _).alloc (Nat.le_refl _) _
  have S3 : Hid (Below W1.heap.size W1 W3) := (S2.out.trans (hb3.mono S2.out.size)).trans (bx3.mono (Nat.le_trans S2.out.size hb3.size))
  have k3 : TBox W3 b3 T tp tz tcp tcz := by subst hW3 hB3; exact ⟨by go_simp, by go_simp, by go_simp, by go_simp, by go_simp, by go_simp, by go_simp⟩
  have K3 : Hid (TBox W3 b3 T tp tz tcp tcz) := k3
  have L3 : Hid (P.Lies W3 (.agg #[.slice tp T.P.np tcp, .slice tz T.P.nz tcz, .int .i64 T.P.train, .int .i64 T.P.fin, .int .i64 T.P.delay])) := ((told_lies ho3 HN.out).below bx3).same HTT.out.2
  obtain ⟨q0, q1, q2, q3, q4, q5, q6⟩ := k3
  obtain ⟨x0, x1, x2, x3, x4⟩ := HB.out.below S3.out
  simp only [Tld.val]
  rw [HTT.out.1] at q0 hW3 ⊢
  clear ho3 hb3 bx3 HTT
  go_wp2_with fail
  clear hW3 hB3 q0 q1 q2 q3 q4 q5 q6 x0 x1 x2 x3 x4
  refine (wProfile_eq P _ _ _ L3.out (HL.out.below S3.out) HCN.out.1 HCN.out.2).mono ?_
  rintro e w4 ⟨rfl, hb4⟩
  have S4 : Hid (Below W1.heap.size W1 w4) := S3.out.trans (hb4.mono S3.out.size)
  obtain ⟨x0, x1, x2, x3, x4⟩ := HB.out.below S4.out
  clear hb4
  go_wp2_with fail
  clear x0 x1 x2 x3 x4
  refine (specWrite_any P _ _ (HL.out.below S4.out)).mono ?_
  rintro e w5 ⟨rfl, hb5⟩
  have S5 : Hid (Below W1.heap.size W1 w5) := S4.out.trans (hb5.mono S4.out.size)
  have HB5 : Hid (Below w.heap.size w w5) := HB1.out.trans (S5.out.mono HB1.out.size)
  rw [HA.out]
  clear hb5
  go_wp2_with fail
  refine (HY0.out _ HB5.out).mono ?_
  rintro e v5 ⟨rfl, hv⟩
  rw [hv]
  clear hv v5
  go_wp2_with fail
  refine (HY1.out _ HB5.out).mono ?_
  rintro e v5 ⟨rfl, hv⟩
  rw [hv]
  clear hv v5
  obtain ⟨k, hk⟩ : ∃ k : Nat, (y0 + 256 * y1).toNat % L.length = k := ⟨_, rfl⟩
  have hkl : k < L.length := by rw [← hk]; exact Nat.mod_lt _ (by omega)
  have hkm : (y0 + 256 * y1).tmod (L.length : Int) = (k : Int) := by
    have e1 : y0 + 256 * y1 = (((y0 + 256 * y1).toNat : Nat) : Int) := by omega
    rw [e1, ← Int.ofNat_tmod, hk]
  have hz0 : ((L.length : Int) == 0) = false := by rw [beq_eq_false_iff_ne]; omega
  have hz1 : ¬ ((L.length : Int) = 0) := by omega
  have hsl := slice_to L k (by omega)
  have HI6 := HI.out (L.take k) w5 (by rw [List.length_take]; omega) (HW.out.below HB5.out) (HE.out.below HB5.out)
  rw [HCUT.out k hkl] at HI6
  clear hk
  go_wp2_with fail
  refine HI6.mono ?_
  clear HI6 hkm hz0 hz1
  rintro e w6 ⟨sp, sz, rfl, ho6, hb6⟩
  obtain ⟨ua, uc, rfl, _⟩ := owned_shape ho6.1
  obtain ⟨uz, ud, rfl, _⟩ := owned_shape ho6.2
  have S6 : Hid (Below W1.heap.size W1 w6) := S5.out.trans (hb6.mono S5.out.size)
  clear ho6 hb6
  simp only [Tld.val, zeroP]
  go_wp2_with fail
  generalize hW6 : w6.alloc _ = W6
  have b6 : Below w6.heap.size w6 W6 := by rw [← hW6]; exact (Below.refl _ _).alloc (Nat.le_refl _) _
  have S7 : Hid (Below W1.heap.size W1 W6) := S6.out.trans (b6.mono S6.out.size)
  clear hW6 b6
  have HB7 : Hid (Below w.heap.size w W6) := HB1.out.trans (S7.out.mono HB1.out.size)
  have eY : Hid (∀ args w, (callFunc 9 args).run Tryd.prog w = .ok (.enter 9 args) w) := enters_of Tryd.func9 (by kernel_rfl) rfl
  obtain ⟨d, hd⟩ : ∃ d : UInt8, (d.toNat : Int) = y2 := ⟨UInt8.ofNat y2.toNat, by
    have : y2.toNat < 256 := by omega
    simp [UInt8.toNat_ofNat']
    omega⟩
  have hcv : IntKind.u8.wrap y2 = y2 := by
    show y2 % 256 = y2
    omega
  obtain ⟨n1, hn1⟩ : ∃ n1 : Nat, k + 1 = n1 := ⟨_, rfl⟩
  have hsf := slice_from L n1 (by omega)
  have hk1 : ((k : Int) + 1) = (n1 : Int) := by omega
  obtain ⟨X1, hX1⟩ : ∃ X, L.take k ++ [d] = X := ⟨_, rfl⟩
  obtain ⟨X, hX⟩ : ∃ X2, X1 ++ L.drop n1 = X2 := ⟨_, rfl⟩
  have e1 : (⟨(L.take k).toArray⟩ : ByteArray) ++ ⟨#[d]⟩ = ⟨X1.toArray⟩ := by rw [← hX1]; exact bytes_app (L.take k) [d]
  have e2 : (⟨X1.toArray⟩ : ByteArray) ++ ⟨(L.drop n1).toArray⟩ = ⟨X.toArray⟩ := by rw [← hX]; exact bytes_app X1 (L.drop n1)
  have lX1 : X1.length = k + 1 := by rw [← hX1, List.length_append, List.length_take]; simp; omega
  have lX : X.length = L.length := by rw [← hX, List.length_append, lX1, List.length_drop]; omega
  have o1 : ¬ (9223372036854775807 < (L.take k).length + 1) := by rw [List.length_take]; omega
  have o2 : ¬ (9223372036854775807 < X1.length + (L.drop n1).length) := by rw [lX1, List.length_drop]; omega
  have hw1 : IntKind.i64.wrap (n1 : Int) = (n1 : Int) := by simp [IntKind.wrap, IntKind.bits, IntKind.signed]; omega
  have hcb : (convert 22 9 (.slice (some ⟨W6.heap.size, 0, none⟩) 1 1)).run Tryd.prog (W6.alloc (.cells #[.int .u8 y2] 5)).drew = .ok (.string ⟨#[d]⟩) (W6.alloc (.cells #[.int .u8 y2] 5)).drew := by
    refine run_convert_bytes_back _ _ _ 5 ⟨W6.heap.size, 0, none⟩ 1 [d] Tryd.underlying22 Tryd.underlying5 Tryd.underlying9 (fun j hj => ?_)
    have : j = 0 := by simp at hj; omega
    subst this
    rw [← hd]
    simp [Addr.add]
  have hS0 : (fun y : World => True) W6.drew := trivial
  refine wp_region_held (S := (fun y : World => True)) (by kernel_rfl) ?_
  change wpAnyH _ _ _ _ _ 15 _ _ W6.drew
  refine wpAnyH_take (i := 0) (v := .string ⟨L.toArray⟩) rfl (by kernel_rfl) (by kernel_rfl) (by kernel_rfl) (fun _ _ _ h => h) (Or.inl ⟨by rfl, fun y hy => ?_⟩) hS0 ?_
  · go_simp
  refine wpAnyH_take (i := 1) (v := .int .i64 k) rfl (by kernel_rfl) (by kernel_rfl) (by kernel_rfl) (fun _ _ _ h => h) (Or.inl ⟨by rfl, fun y hy => ?_⟩) hS0 ?_
  · go_simp
  refine wpAnyH_take (i := 2) (v := .string ⟨(L.take k).toArray⟩) rfl (by kernel_rfl) (by kernel_rfl) (by kernel_rfl) (fun _ _ _ h => h) (Or.inl ⟨by rfl, fun y hy => ?_⟩) hS0 ?_
  · go_simp
  refine wpAnyH_take (i := 3) (v := .slice a1 len1 cap1) rfl (by kernel_rfl) (by kernel_rfl) (by kernel_rfl) (fun _ _ _ h => h) (Or.inl ⟨by rfl, fun y hy => ?_⟩) hS0 ?_
  · go_simp
  refine wpAnyH_take (i := 9) (v := .string ⟨L.toArray⟩) rfl (by kernel_rfl) (by kernel_rfl) (by kernel_rfl) (fun _ _ _ h => h) (Or.inl ⟨by rfl, fun y hy => ?_⟩) hS0 ?_
  · go_simp
  refine wpAnyH_take (i := 10) (v := .int .i64 k) rfl (by kernel_rfl) (by kernel_rfl) (by kernel_rfl) (fun _ _ _ h => h) (Or.inl ⟨by rfl, fun y hy => ?_⟩) hS0 ?_
  · go_simp
  refine wpAnyH_take (i := 11) (v := .int .i64 (n1 : Int)) rfl (by kernel_rfl) (by kernel_rfl) (by kernel_rfl) (fun _ _ _ h => h) (Or.inl ⟨by rfl, fun y hy => ?_⟩) hS0 ?_
  · go_simp
  refine wpAnyH_take (i := 12) (v := .string ⟨(L.drop n1).toArray⟩) rfl (by kernel_rfl) (by kernel_rfl) (by kernel_rfl) (fun _ _ _ h => h) (Or.inl ⟨by rfl, fun y hy => ?_⟩) hS0 ?_
  · go_simp
  refine wpAnyH_sole (i := 4) rfl (by kernel_rfl) (fun K hK => ?_)
  refine step_call2 rfl 9 (.tmp 79) _ _ rfl (.slice a1 len1 cap1) (.int .i64 2) (by simp [Act.eval, Act.put]) (by rfl) eY.out (HY2.out _ HB7.out.drew) ?_
  rintro e v8 ⟨rfl, hv⟩
  refine ⟨_, rfl, hK _ _ trivial ?_⟩
  rw [hv]
  clear hK K hv v8
  refine wpAnyH_take (i := 5) (v := .int .u8 y2) rfl (by kernel_rfl) (by kernel_rfl) (by kernel_rfl) (fun _ _ _ h => h) (Or.inl ⟨by rfl, fun y hy => ?_⟩) trivial ?_
  · go_simp
  refine wpAnyH_sole (i := 6) rfl (by kernel_rfl) (fun K hK => ?_)
  go_simp
  refine hK _ _ trivial ?_
  clear hK K
  refine wpAnyH_sole (i := 7) rfl (by kernel_rfl) (fun K hK => ?_)
  go_simp
  refine hK _ _ trivial ?_
  clear hK K
  refine wpAnyH_take (i := 8) (v := .string ⟨X1.toArray⟩) rfl (by kernel_rfl) (by kernel_rfl) (by kernel_rfl) (fun _ _ _ h => h) (Or.inl ⟨by rfl, fun y hy => ?_⟩) trivial ?_
  · go_simp
    omega
  refine wpAnyH_take (i := 13) (v := .string ⟨X.toArray⟩) rfl (by kernel_rfl) (by kernel_rfl) (by kernel_rfl) (fun _ _ _ h => h) (Or.inl ⟨by rfl, fun y hy => ?_⟩) trivial ?_
  · go_simp
    omega
  refine wpAnyH_sole (i := 14) rfl (by kernel_rfl) (fun K hK => ?_)
  go_simp
  refine hK _ _ trivial ?_
  clear hK K
  refine wpAnyH_done (by kernel_rfl) ?_ _
  have b8 : Below W6.heap.size W6 (W6.alloc (.cells #[.int .u8 y2] 5)).drew := ((Below.refl _ _).alloc (Nat.le_refl _) _).drew
  have S8 : Hid (Below W1.heap.size W1 (W6.alloc (.cells #[.int .u8 y2] 5)).drew) := S7.out.trans (b8.mono S7.out.size)
  clear hcb e1 e2 o1 o2 hsf hsl hcv hw1 hk1 b8 HB7
  generalize (W6.alloc (.cells #[.int .u8 y2] 5)).drew = W8 at *
  have HB8 : Hid (Below w.heap.size w W8) := HB1.out.trans (S8.out.mono HB1.out.size)
  have HI9 := HI.out X W8 (by omega) (HW.out.below HB8.out) (HE.out.below HB8.out)
  have HSP : Hid (∀ y, Calls Tryd.prog 10 #[.string ⟨X.toArray⟩] y fun e w' => ∃ sp sz, e = .returned ((told X).val sp sz) ∧ (told X).Owned y.heap.size w' sp sz ∧ Below y.heap.size y w') := fun y => specRead_any X y (by omega)
  have HNX : Hid ((told X).P.np ≤ 60 ∧ (told X).P.nz ≤ 60) := told_few X
  have HVX := HINV.out X
  have HXL : Hid (X = L ∨ (told X).code ≠ 0 ∨ ¬ Same (told X).P P) := by
    by_cases q1 : (told X).code = 0
    · by_cases q2 : Same (told X).P P
      · exact Or.inl (HVX q1 q2)
      · exact Or.inr (Or.inr q2)
    · exact Or.inr (Or.inl q1)
  clear HVX HINV HCUT hX hX1
  generalize told X = U at *
  go_wp2_with fail
  refine HI9.mono ?_
  clear HI9
  rintro e w9 ⟨sp, sz, rfl, ho9, hb9⟩
  obtain ⟨ra, rc, rfl, _⟩ := owned_shape ho9.1
  obtain ⟨rz, rd, rfl, _⟩ := owned_shape ho9.2
  obtain ⟨m9, hm9⟩ : ∃ m9, w9.heap.size = m9 := ⟨_, rfl⟩
  obtain ⟨W9, hW9⟩ : ∃ W9, w9.alloc (.cells #[.int .i64 U.code, .int .i64 U.at_, .slice ra U.P.np rc, .slice rz U.P.nz rd, .int .i64 U.P.train, .int .i64 U.P.fin, .int .i64 U.P.delay] 32) = W9 := ⟨_, rfl⟩
  have bx9 : Below w9.heap.size w9 W9 := by rw [← hW9]; exact (Below.refl _ _).alloc (Nat.le_refl _) _
  have S9' := hb9.trans (bx9.mono hb9.size)
  have S9 : Hid (Below W1.heap.size W1 W9) := S8.out.trans (S9'.mono S8.out.size)
  have k9 : TBox W9 m9 U ra rz rc rd := by subst hW9 hm9; exact ⟨by go_simp, by go_simp, by go_simp, by go_simp, by go_simp, by go_simp, by go_simp⟩
  have K9 : Hid (TBox W9 m9 U ra rz rc rd) := k9
  have L9 : Hid (U.P.Lies W9 (.agg #[.slice ra U.P.np rc, .slice rz U.P.nz rd, .int .i64 U.P.train, .int .i64 U.P.fin, .int .i64 U.P.delay])) := (told_lies ho9 HNX.out).below bx9
  clear ho9 hb9 bx9 k9
  simp only [Tld.val]
  go_wp2_with fail
  clear hW9
  refine (HSP.out _).mono ?_
  rintro e w10 ⟨sp, sz, rfl, ho10, hb10⟩
  obtain ⟨ta, tc, rfl, _⟩ := owned_shape ho10.1
  obtain ⟨tzz, td, rfl, _⟩ := owned_shape ho10.2
  obtain ⟨m10, hm10⟩ : ∃ m10, w10.heap.size = m10 := ⟨_, rfl⟩
  obtain ⟨W10, hW10⟩ : ∃ W10, w10.alloc (.cells #[.int .i64 U.code, .int .i64 U.at_, .slice ta U.P.np tc, .slice tzz U.P.nz td, .int .i64 U.P.train, .int .i64 U.P.fin, .int .i64 U.P.delay] 32) = W10 := ⟨_, rfl⟩
  have bx10 : Below w10.heap.size w10 W10 := by rw [← hW10]; exact (Below.refl _ _).alloc (Nat.le_refl _) _
  have S10' := hb10.trans (bx10.mono hb10.size)
  have S10 : Hid (Below W1.heap.size W1 W10) := S9.out.trans (S10'.mono S9.out.size)
  have k10 : TBox W10 m10 U ta tzz tc td := by subst hW10 hm10; exact ⟨by go_simp, by go_simp, by go_simp, by go_simp, by go_simp, by go_simp, by go_simp⟩
  have K10 : Hid (TBox W10 m10 U ta tzz tc td) := k10
  have L10 : Hid (U.P.Lies W10 (.agg #[.slice ta U.P.np tc, .slice tzz U.P.nz td, .int .i64 U.P.train, .int .i64 U.P.fin, .int .i64 U.P.delay])) := (told_lies ho10 HNX.out).below bx10
  obtain ⟨q0, q1, q2, q3, q4, q5, q6⟩ := K9.out.below S10' K9.out.lt
  obtain ⟨r0, r1, r2, r3, r4, r5, r6⟩ := k10
  have L9' : Hid (U.P.Lies W10 (.agg #[.slice ra U.P.np rc, .slice rz U.P.nz rd, .int .i64 U.P.train, .int .i64 U.P.fin, .int .i64 U.P.delay])) := L9.out.below S10'
  have HK9 : Hid (TBox W10 m9 U ra rz rc rd) := K9.out.below S10' K9.out.lt
  clear ho10 hb10 bx10 S10'
  simp only [Tld.val]
  go_wp2_with fail
  clear hW10
  refine (wProfile_eq U.P _ _ _ L9'.out L10.out HNX.out.1 HNX.out.2).mono ?_
  rintro e w11 ⟨rfl, hb11⟩
  have S11 : Hid (Below W1.heap.size W1 w11) := S10.out.trans (hb11.mono S10.out.size)
  have HB11 : Hid (Below w.heap.size w w11) := HB1.out.trans (S11.out.mono HB1.out.size)
  have L11 : Hid (U.P.Lies w11 (.agg #[.slice ra U.P.np rc, .slice rz U.P.nz rd, .int .i64 U.P.train, .int .i64 U.P.fin, .int .i64 U.P.delay])) := L9'.out.below hb11
  clear q0 q1 q2 q3 q4 q5 q6 r0 r1 r2 r3 r4 r5 r6
  obtain ⟨q0, q1, q2, q3, q4, q5, q6⟩ := HK9.out.below hb11 HK9.out.lt
  obtain ⟨x0, x1, x2, x3, x4⟩ := HB.out.below S11.out
  by_cases c1 : X = L
  · have c2 : (X == L) = true := by simpa using c1
    clear c1
    go_wp2
    go_ret
    exact ⟨rfl, HB11.out⟩
  have c2 : (X == L) = false := by simpa using c1
  by_cases c3 : U.code = 0
  · have hns : ¬ Same U.P P := by
      rcases HXL.out with q | q | q
      · exact absurd q c1
      · exact absurd c3 q
      · exact q
    have HNS : Hid (¬ Same U.P P) := hns
    have c4 : (U.code != 0) = false := by rw [c3]; rfl
    clear hns c1
    go_wp2_with fail
    refine (wProfile_no U.P P _ _ _ L11.out (HL.out.below S11.out) HNX.out.1 HNX.out.2 HCN.out.1 HCN.out.2 HNS.out).mono ?_
    rintro e w12 ⟨rfl, hb12⟩
    have HB12 : Hid (Below w.heap.size w w12) := HB11.out.trans (hb12.mono HB11.out.size)
    go_wp2
    go_ret
    exact ⟨rfl, HB12.out⟩
  · have c4 : (U.code != 0) = true := by simpa using c3
    clear c1
    go_wp2
    go_ret
    exact ⟨rfl, HB11.out⟩

end Go.Proofs.YteodefmpkljedaaDoor
