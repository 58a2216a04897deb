/-
  The drawn wants and all that a law draws: a profile, a place, wants.
-/
import Derived.Test.YteodefmpkljedaaDoorDrawWants
namespace Go.Proofs.YteodefmpkljedaaDoor
open Go.RowKit
set_option linter.unusedVariables false
set_option linter.unusedSimpArgs false

theorem Tryd.infoIntD : (Tryd.prog.info? 3).map (fun i => (i.zero, i.size, i.bytes)) = some (some (.int .i64 0), 1, 8) := by kernel_rfl

def Txt.wantVal (C : Txt) (c : Cur) (w : Int) : Int := if C.pickVal c 6 = 0 then C.speedVal (C.pickCur c 6) else if C.pickVal c 6 = 1 then w + C.pickVal (C.pickCur c 6) 60 else if C.pickVal c 6 = 2 then w - C.pickVal (C.pickCur c 6) 30 else w + C.pickVal (C.pickCur c 6) 12
def Txt.wantCur (C : Txt) (c : Cur) : Cur := if C.pickVal c 6 = 0 then C.speedCur (C.pickCur c 6) else if C.pickVal c 6 = 1 then C.pickCur (C.pickCur c 6) 60 else if C.pickVal c 6 = 2 then C.pickCur (C.pickCur c 6) 30 else C.pickCur (C.pickCur c 6) 12
def Txt.wantAt (C : Txt) (c : Cur) (w : Int) : Nat → Int × Cur
  | 0 => (w, c)
  | k + 1 => (C.wantVal (C.wantAt c w k).2 (C.wantAt c w k).1, C.wantCur (C.wantAt c w k).2)
theorem Txt.wantCur_pos (C : Txt) (c : Cur) : c.pos ≤ (C.wantCur c).pos ∧ (C.wantCur c).pos ≤ c.pos + 6 := by
  have hp := C.pickCur_pos c 6
  unfold Txt.wantCur
  split
  · have := C.speedCur_pos (C.pickCur c 6); omega
  · split
    · have := C.pickCur_pos (C.pickCur c 6) 60; omega
    · split
      · have := C.pickCur_pos (C.pickCur c 6) 30; omega
      · have := C.pickCur_pos (C.pickCur c 6) 12; omega
theorem Txt.wantVal_bounds {C : Txt} (h : C.Ok) {c : Cur} (h0 : 0 ≤ c.pos) {w m : Int} (hm : 10001 ≤ m) (hw : -m ≤ w) (hw' : w ≤ m) : -(m + 60) ≤ C.wantVal c w ∧ C.wantVal c w ≤ m + 60 := by
  have hp := C.pickCur_pos c 6
  unfold Txt.wantVal
  split
  · have := Txt.speedVal_bounds h (c := C.pickCur c 6) (by omega); omega
  · split
    · have := Txt.pickVal_bounds h (c := C.pickCur c 6) (by omega) (n := 60) (by omega); omega
    · split
      · have := Txt.pickVal_bounds h (c := C.pickCur c 6) (by omega) (n := 30) (by omega); omega
      · have := Txt.pickVal_bounds h (c := C.pickCur c 6) (by omega) (n := 12) (by omega); omega
theorem Txt.wantAt_bounds {C : Txt} (h : C.Ok) {c : Cur} (h0 : 0 ≤ c.pos) {w : Int} (hw : 0 ≤ w) (hw' : w ≤ 10001) : ∀ k : Nat, c.pos ≤ (C.wantAt c w k).2.pos ∧ (C.wantAt c w k).2.pos ≤ c.pos + 6 * k ∧ -(10001 + 60 * k) ≤ (C.wantAt c w k).1 ∧ (C.wantAt c w k).1 ≤ 10001 + 60 * (k : Int)
  | 0 => by unfold Txt.wantAt; simp; omega
  | k + 1 => by
    obtain ⟨i1, i2, i3, i4⟩ := Txt.wantAt_bounds h h0 hw hw' k
    have h1 := C.wantCur_pos (C.wantAt c w k).2
    have h2 := Txt.wantVal_bounds h (c := (C.wantAt c w k).2) (by omega) (w := (C.wantAt c w k).1) (m := 10001 + 60 * (k : Int)) (by omega) (by omega) (by omega)
    unfold Txt.wantAt
    dsimp only
    omega
def Txt.w0 (C : Txt) (c : Cur) : Int := C.pickVal c 40
def Txt.wn (C : Txt) (c : Cur) : Nat := (C.pickVal (C.pickCur c 40) 40).toNat
def Txt.wc (C : Txt) (c : Cur) : Cur := C.pickCur (C.pickCur c 40) 40
/-- What is wanted at tick k. -/
def Txt.want (C : Txt) (c : Cur) (k : Nat) : Int := (C.wantAt (C.wc c) (C.w0 c) (k + 1)).1

set_option maxRecDepth 20000 in
set_option maxHeartbeats 8000000 in
theorem wants_any (C : Txt) (hC : C.Ok) (a : Option Addr) (cap B : Nat) (c : Cur) (w : World) (hr : Reads w B a cap C c) (p0 : 0 ≤ c.pos) (p1 : c.pos ≤ 1000000) :
    Calls Tryd.prog 14 #[.pointer (some ⟨B, 0, none⟩)] w fun e w' => ∃ v, e = .returned v ∧ w'.ownsRow w.heap.size 3 1 v (C.wn c) (singles (C.want c) (C.wn c)) ∧ w.grownBy w' (some B) := by
  have HR : Hid (Reads w B a cap C c) := hr
  have HC : Hid C.Ok := hC
  have hBl := hr.lt
  obtain ⟨i0, hi, hz0, hz1, hz2⟩ := info_parts Tryd.infoIntD
  clear hr hC
  obtain ⟨q0, q1⟩ := C.pickCur_pos c 40
  obtain ⟨r0, r1⟩ := C.pickCur_pos (C.pickCur c 40) 40
  obtain ⟨v0, v1⟩ := Txt.pickVal_bounds HC.out p0 (n := 40) (by omega)
  obtain ⟨u0, u1⟩ := Txt.pickVal_bounds HC.out (c := C.pickCur c 40) (by omega) (n := 40) (by omega)
  have hwn : ((C.wn c : Nat) : Int) = C.pickVal (C.pickCur c 40) 40 := by unfold Txt.wn; omega
  go_enter Tryd.func14, Tryd.ntmps14
  go_wp2_with fail
  refine (pick_any C HC.out a cap B c 40 _ HR.out p0 (by omega)).mono ?_
  rintro e w1 ⟨rfl, hr1, hg1⟩
  go_wp2_with fail
  refine (pick_any C HC.out a cap B _ 40 _ hr1 (by omega) (by omega)).mono ?_
  rintro e w2 ⟨rfl, hr2, hg2⟩
  have H2 : Hid (Reads w2 B a cap C (C.wc c) ∧ w.grownBy w2 (some B)) := ⟨hr2, grown_tr hg1 hg2⟩
  have HB : Hid (∀ k : Nat, (C.wc c).pos ≤ (C.wantAt (C.wc c) (C.w0 c) k).2.pos ∧ (C.wantAt (C.wc c) (C.w0 c) k).2.pos ≤ (C.wc c).pos + 6 * k ∧ -(10001 + 60 * k) ≤ (C.wantAt (C.wc c) (C.w0 c) k).1 ∧ (C.wantAt (C.wc c) (C.w0 c) k).1 ≤ 10001 + 60 * (k : Int)) := Txt.wantAt_bounds HC.out (c := C.wc c) (by show 0 ≤ (C.pickCur (C.pickCur c 40) 40).pos; omega) (by show 0 ≤ C.pickVal c 40; omega) (by show C.pickVal c 40 ≤ 10001; omega)
  have hwc : (C.wc c).pos ≤ c.pos + 4 ∧ c.pos ≤ (C.wc c).pos := by show (C.pickCur (C.pickCur c 40) 40).pos ≤ _ ∧ _ ≤ (C.pickCur (C.pickCur c 40) 40).pos; omega
  clear hr1 hg1 hr2 hg2
  rw [← hwn] at u1 ⊢
  rw [show C.pickVal c 40 = (C.wantAt (C.wc c) (C.w0 c) 0).1 from rfl]
  obtain ⟨hwc0, hwc1⟩ := hwc
  clear v0 v1 u0 q0 q1 r0 r1
  go_wp2
  go_loopw [3, 4, 5] (fun so sw sn wr => ∃ (k : Nat), k ≤ C.wn c ∧ sw = .int .i64 (C.wantAt (C.wc c) (C.w0 c) k).1 ∧ sn = .int .i64 ((C.wn c : Int) - k) ∧ w.heap.size ≤ wr.heap.size ∧ Hid (wr.ownsRow w.heap.size 3 1 so k (singles (C.want c) k) ∧ Reads wr B a cap C (C.wantAt (C.wc c) (C.w0 c) k).2 ∧ w.grownBy wr (some B))) (fun _ _ sn _ => (intOf sn).toNat)
  case atStart => exact ⟨0, by omega, rfl, by rw [hwn]; simp, H2.out.2.size, World.ownsRow_nil _ _ _ _, H2.out.1, H2.out.2⟩
  case round =>
    clear H2
    obtain ⟨k, hk, rfl, rfl, hsz, HH⟩ := hrel
    by_cases hlt : k < C.wn c
    · obtain ⟨b1, b2, b3, b4⟩ := HB.out k
      obtain ⟨d1, d2, d3, d4⟩ := HB.out (k + 1)
      have HST : Hid (C.wantAt (C.wc c) (C.w0 c) (k + 1) = (C.wantVal (C.wantAt (C.wc c) (C.w0 c) k).2 (C.wantAt (C.wc c) (C.w0 c) k).1, C.wantCur (C.wantAt (C.wc c) (C.w0 c) k).2)) := rfl
      generalize C.wantAt (C.wc c) (C.w0 c) k = st at *
      obtain ⟨x, cu⟩ := st
      dsimp only at *
      obtain ⟨x', hx'⟩ : ∃ x', C.wantVal cu x = x' := ⟨_, rfl⟩
      obtain ⟨cu', hcu'⟩ : ∃ cu', C.wantCur cu = cu' := ⟨_, rfl⟩
      rw [hx', hcu'] at HST
      have HK : Hid (x' = C.wantVal cu x ∧ cu' = C.wantCur cu) := ⟨hx'.symm, hcu'.symm⟩
      have HW : Hid (C.want c k = x') := by show (C.wantAt (C.wc c) (C.w0 c) (k + 1)).1 = x'; rw [HST.out]
      rw [HST.out] at d1 d2 d3 d4
      dsimp only at d1 d2 d3 d4
      clear hx' hcu'
      obtain ⟨q0, q1⟩ := C.pickCur_pos cu 6
      obtain ⟨e0, e1⟩ := Txt.pickVal_bounds HC.out (c := cu) (by omega) (n := 6) (by omega)
      go_wp2_with fail
      refine (pick_any C HC.out a cap B _ 6 _ HH.out.2.1 (by omega) (by omega)).mono ?_
      rintro e w3 ⟨rfl, hr3, hg3⟩
      have s3 := hg3.size
      have H3 : Hid (w3.ownsRow w.heap.size 3 1 u3 k (singles (C.want c) k) ∧ Reads w3 B a cap C (C.pickCur cu 6) ∧ w.grownBy w3 (some B)) := ⟨owned_grown HH.out.1 hg3 (fun j e he => by have h1 := ownsRow_block HH.out.1 j he; have h2 := Option.some.inj e; omega), hr3, grown_tr HH.out.2.2 hg3⟩
      clear HH hr3 hg3
      by_cases h0 : C.pickVal cu 6 = 0
      · rw [h0]
        have HX : Hid (x' = C.speedVal (C.pickCur cu 6)) := by show _ = _; rw [HK.out.1]; exact (if_pos h0)
        have HCU : Hid (cu' = C.speedCur (C.pickCur cu 6)) := by show _ = _; rw [HK.out.2]; exact (if_pos h0)
        go_wp2_with fail
        refine (speed_any C HC.out a cap B _ _ H3.out.2.1 (by omega) (by omega)).mono ?_
        rintro e w4 ⟨rfl, hr4, hg4⟩
        have H4 : Hid (w4.ownsRow w.heap.size 3 1 u3 k (singles (C.want c) k) ∧ Reads w4 B a cap C cu' ∧ w.grownBy w4 (some B)) := ⟨owned_grown H3.out.1 hg4 (fun j e he => by have h1 := ownsRow_block H3.out.1 j he; have h2 := Option.some.inj e; omega), by rw [HCU.out]; exact hr4, grown_tr H3.out.2.2 hg4⟩
        have s4 := hg4.size
        clear hr4 hg4 H3 HCU
        obtain ⟨g0, g1⟩ := Txt.speedVal_bounds HC.out (c := C.pickCur cu 6) (by omega)
        generalize C.speedVal (C.pickCur cu 6) = pv at *
        have HO4 : Hid (w4.ownsRow w.heap.size 3 1 u3 k (singles (C.want c) k)) := H4.out.1
        obtain ⟨au, cpu, rfl, _, _, _⟩ := owned_shape H4.out.1
        go_wp2_with (first | (at_builtin; refine wpList_append_own _ rfl _ _ 27 rfl w.heap.size 3 i0 (.int .i64 0) 1 8 Tryd.underlying27 hi hz0 hz1 hz2 rfl (by decide) _ _ _ rfl (HO4.out.alloc _) ⟨w4.heap.size, 0, none⟩ 1 1 [.int .i64 (pv)] rfl rfl ?c1 ?c2 ?c3 ?c4 ?c5 ?_))
        case c1 =>
          intro j u hj
          match j, hj with
          | 0, hj => simp at hj; subst hj; simp [Addr.add]
        case c2 => intro u hu; simp at hu; subst hu; rfl
        case c3 => unfold maxLen; omega
        case c4 => omega
        case c5 => simp; omega
        intro v5 w5 hown5 hgrow5 _
        have hob := ownsRow_block HO4.out
        have H5 : Hid (w5.ownsRow w.heap.size 3 1 v5 (k + 1) (singles (C.want c) (k + 1)) ∧ Reads w5 B a cap C cu' ∧ w.grownBy w5 (some B)) := by
          obtain ⟨o1, o2, o3⟩ := H4.out
          refine ⟨?_, (o2.grown (World.grownBy_alloc _ _ none) (fun j e => by cases e)).grown hgrow5 (fun j e => by have := hob _ e; omega), grown_new (grown_tr o3 (World.grownBy_alloc _ _ _)) hgrow5 (fun j e => hob _ e)⟩
          rw [singles, HW.out, HX.out]; exact hown5
        have s5 := hgrow5.size
        simp at s5
        obtain ⟨av, cv, rfl, _, _, _⟩ := owned_shape H5.out.1
        clear hown5 hgrow5 hob H4 HO4
        go_wp2
        go_roundw
        case rel => exact ⟨k + 1, by omega, by rw [HST.out, ← HX.out], by go_num, by omega, by rw [HST.out]; exact H5.out⟩
        case measure => simp [intOf]; omega
      · by_cases h1 : C.pickVal cu 6 = 1
        · rw [h1]
          have HX : Hid (x' = x + C.pickVal (C.pickCur cu 6) 60) := by show _ = _; rw [HK.out.1]; exact ((if_neg h0).trans (if_pos h1))
          have HCU : Hid (cu' = C.pickCur (C.pickCur cu 6) 60) := by show _ = _; rw [HK.out.2]; exact ((if_neg h0).trans (if_pos h1))
          go_wp2_with fail
          refine (pick_any C HC.out a cap B _ 60 _ H3.out.2.1 (by omega) (by omega)).mono ?_
          rintro e w4 ⟨rfl, hr4, hg4⟩
          have H4 : Hid (w4.ownsRow w.heap.size 3 1 u3 k (singles (C.want c) k) ∧ Reads w4 B a cap C cu' ∧ w.grownBy w4 (some B)) := ⟨owned_grown H3.out.1 hg4 (fun j e he => by have h1 := ownsRow_block H3.out.1 j he; have h2 := Option.some.inj e; omega), by rw [HCU.out]; exact hr4, grown_tr H3.out.2.2 hg4⟩
          have s4 := hg4.size
          clear hr4 hg4 H3 HCU
          obtain ⟨g0, g1⟩ := Txt.pickVal_bounds HC.out (c := C.pickCur cu 6) (by omega) (n := 60) (by omega)
          generalize C.pickVal (C.pickCur cu 6) 60 = pv at *
          have HO4 : Hid (w4.ownsRow w.heap.size 3 1 u3 k (singles (C.want c) k)) := H4.out.1
          obtain ⟨au, cpu, rfl, _, _, _⟩ := owned_shape H4.out.1
          go_wp2_with (first | (at_builtin; refine wpList_append_own _ rfl _ _ 27 rfl w.heap.size 3 i0 (.int .i64 0) 1 8 Tryd.underlying27 hi hz0 hz1 hz2 rfl (by decide) _ _ _ rfl (HO4.out.alloc _) ⟨w4.heap.size, 0, none⟩ 1 1 [.int .i64 (x + pv)] rfl rfl ?c1 ?c2 ?c3 ?c4 ?c5 ?_))
          case c1 =>
            intro j u hj
            match j, hj with
            | 0, hj => simp at hj; subst hj; simp [Addr.add]
          case c2 => intro u hu; simp at hu; subst hu; rfl
          case c3 => unfold maxLen; omega
          case c4 => omega
          case c5 => simp; omega
          intro v5 w5 hown5 hgrow5 _
          have hob := ownsRow_block HO4.out
          have H5 : Hid (w5.ownsRow w.heap.size 3 1 v5 (k + 1) (singles (C.want c) (k + 1)) ∧ Reads w5 B a cap C cu' ∧ w.grownBy w5 (some B)) := by
            obtain ⟨o1, o2, o3⟩ := H4.out
            refine ⟨?_, (o2.grown (World.grownBy_alloc _ _ none) (fun j e => by cases e)).grown hgrow5 (fun j e => by have := hob _ e; omega), grown_new (grown_tr o3 (World.grownBy_alloc _ _ _)) hgrow5 (fun j e => hob _ e)⟩
            rw [singles, HW.out, HX.out]; exact hown5
          have s5 := hgrow5.size
          simp at s5
          obtain ⟨av, cv, rfl, _, _, _⟩ := owned_shape H5.out.1
          clear hown5 hgrow5 hob H4 HO4
          go_wp2
          go_roundw
          case rel => exact ⟨k + 1, by omega, by rw [HST.out, ← HX.out], by go_num, by omega, by rw [HST.out]; exact H5.out⟩
          case measure => simp [intOf]; omega
        · by_cases h2 : C.pickVal cu 6 = 2
          · rw [h2]
            have HX : Hid (x' = x - C.pickVal (C.pickCur cu 6) 30) := by show _ = _; rw [HK.out.1]; exact ((if_neg h0).trans ((if_neg h1).trans (if_pos h2)))
            have HCU : Hid (cu' = C.pickCur (C.pickCur cu 6) 30) := by show _ = _; rw [HK.out.2]; exact ((if_neg h0).trans ((if_neg h1).trans (if_pos h2)))
            go_wp2_with fail
            refine (pick_any C HC.out a cap B _ 30 _ H3.out.2.1 (by omega) (by omega)).mono ?_
            rintro e w4 ⟨rfl, hr4, hg4⟩
            have H4 : Hid (w4.ownsRow w.heap.size 3 1 u3 k (singles (C.want c) k) ∧ Reads w4 B a cap C cu' ∧ w.grownBy w4 (some B)) := ⟨owned_grown H3.out.1 hg4 (fun j e he => by have h1 := ownsRow_block H3.out.1 j he; have h2 := Option.some.inj e; omega), by rw [HCU.out]; exact hr4, grown_tr H3.out.2.2 hg4⟩
            have s4 := hg4.size
            clear hr4 hg4 H3 HCU
            obtain ⟨g0, g1⟩ := Txt.pickVal_bounds HC.out (c := C.pickCur cu 6) (by omega) (n := 30) (by omega)
            generalize C.pickVal (C.pickCur cu 6) 30 = pv at *
            have HO4 : Hid (w4.ownsRow w.heap.size 3 1 u3 k (singles (C.want c) k)) := H4.out.1
            obtain ⟨au, cpu, rfl, _, _, _⟩ := owned_shape H4.out.1
            go_wp2_with (first | (at_builtin; refine wpList_append_own _ rfl _ _ 27 rfl w.heap.size 3 i0 (.int .i64 0) 1 8 Tryd.underlying27 hi hz0 hz1 hz2 rfl (by decide) _ _ _ rfl (HO4.out.alloc _) ⟨w4.heap.size, 0, none⟩ 1 1 [.int .i64 (x - pv)] rfl rfl ?c1 ?c2 ?c3 ?c4 ?c5 ?_))
            case c1 =>
              intro j u hj
              match j, hj with
              | 0, hj => simp at hj; subst hj; simp [Addr.add]
            case c2 => intro u hu; simp at hu; subst hu; rfl
            case c3 => unfold maxLen; omega
            case c4 => omega
            case c5 => simp; omega
            intro v5 w5 hown5 hgrow5 _
            have hob := ownsRow_block HO4.out
            have H5 : Hid (w5.ownsRow w.heap.size 3 1 v5 (k + 1) (singles (C.want c) (k + 1)) ∧ Reads w5 B a cap C cu' ∧ w.grownBy w5 (some B)) := by
              obtain ⟨o1, o2, o3⟩ := H4.out
              refine ⟨?_, (o2.grown (World.grownBy_alloc _ _ none) (fun j e => by cases e)).grown hgrow5 (fun j e => by have := hob _ e; omega), grown_new (grown_tr o3 (World.grownBy_alloc _ _ _)) hgrow5 (fun j e => hob _ e)⟩
              rw [singles, HW.out, HX.out]; exact hown5
            have s5 := hgrow5.size
            simp at s5
            obtain ⟨av, cv, rfl, _, _, _⟩ := owned_shape H5.out.1
            clear hown5 hgrow5 hob H4 HO4
            go_wp2
            go_roundw
            case rel => exact ⟨k + 1, by omega, by rw [HST.out, ← HX.out], by go_num, by omega, by rw [HST.out]; exact H5.out⟩
            case measure => simp [intOf]; omega
          · have z0 : (C.pickVal cu 6 == 0) = false := by simpa using h0
            have z1 : (C.pickVal cu 6 == 1) = false := by simpa using h1
            have z2 : (C.pickVal cu 6 == 2) = false := by simpa using h2
            have HX : Hid (x' = x + C.pickVal (C.pickCur cu 6) 12) := by show _ = _; rw [HK.out.1]; exact ((if_neg h0).trans ((if_neg h1).trans (if_neg h2)))
            have HCU : Hid (cu' = C.pickCur (C.pickCur cu 6) 12) := by show _ = _; rw [HK.out.2]; exact ((if_neg h0).trans ((if_neg h1).trans (if_neg h2)))
            go_wp2_with fail
            refine (pick_any C HC.out a cap B _ 12 _ H3.out.2.1 (by omega) (by omega)).mono ?_
            rintro e w4 ⟨rfl, hr4, hg4⟩
            have H4 : Hid (w4.ownsRow w.heap.size 3 1 u3 k (singles (C.want c) k) ∧ Reads w4 B a cap C cu' ∧ w.grownBy w4 (some B)) := ⟨owned_grown H3.out.1 hg4 (fun j e he => by have h1 := ownsRow_block H3.out.1 j he; have h2 := Option.some.inj e; omega), by rw [HCU.out]; exact hr4, grown_tr H3.out.2.2 hg4⟩
            have s4 := hg4.size
            clear hr4 hg4 H3 HCU
            obtain ⟨g0, g1⟩ := Txt.pickVal_bounds HC.out (c := C.pickCur cu 6) (by omega) (n := 12) (by omega)
            generalize C.pickVal (C.pickCur cu 6) 12 = pv at *
            have HO4 : Hid (w4.ownsRow w.heap.size 3 1 u3 k (singles (C.want c) k)) := H4.out.1
            obtain ⟨au, cpu, rfl, _, _, _⟩ := owned_shape H4.out.1
            go_wp2_with (first | (at_builtin; refine wpList_append_own _ rfl _ _ 27 rfl w.heap.size 3 i0 (.int .i64 0) 1 8 Tryd.underlying27 hi hz0 hz1 hz2 rfl (by decide) _ _ _ rfl (HO4.out.alloc _) ⟨w4.heap.size, 0, none⟩ 1 1 [.int .i64 (x + pv)] rfl rfl ?c1 ?c2 ?c3 ?c4 ?c5 ?_))
            case c1 =>
              intro j u hj
              match j, hj with
              | 0, hj => simp at hj; subst hj; simp [Addr.add]
            case c2 => intro u hu; simp at hu; subst hu; rfl
            case c3 => unfold maxLen; omega
            case c4 => omega
            case c5 => simp; omega
            intro v5 w5 hown5 hgrow5 _
            have hob := ownsRow_block HO4.out
            have H5 : Hid (w5.ownsRow w.heap.size 3 1 v5 (k + 1) (singles (C.want c) (k + 1)) ∧ Reads w5 B a cap C cu' ∧ w.grownBy w5 (some B)) := by
              obtain ⟨o1, o2, o3⟩ := H4.out
              refine ⟨?_, (o2.grown (World.grownBy_alloc _ _ none) (fun j e => by cases e)).grown hgrow5 (fun j e => by have := hob _ e; omega), grown_new (grown_tr o3 (World.grownBy_alloc _ _ _)) hgrow5 (fun j e => hob _ e)⟩
              rw [singles, HW.out, HX.out]; exact hown5
            have s5 := hgrow5.size
            simp at s5
            obtain ⟨av, cv, rfl, _, _, _⟩ := owned_shape H5.out.1
            clear hown5 hgrow5 hob H4 HO4
            go_wp2
            go_roundw
            case rel => exact ⟨k + 1, by omega, by rw [HST.out, ← HX.out], by go_num, by omega, by rw [HST.out]; exact H5.out⟩
            case measure => simp [intOf]; omega
    · have e : k = C.wn c := by omega
      subst e
      go_wp2
      go_ret
      exact ⟨_, rfl, HH.out.1, HH.out.2.2⟩

end Go.Proofs.YteodefmpkljedaaDoor
