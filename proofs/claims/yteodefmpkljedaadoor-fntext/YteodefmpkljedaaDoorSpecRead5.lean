/-
  The model of ReadProfile.
-/
import Derived.Test.YteodefmpkljedaaDoorSpecRead4
namespace Go.Proofs.YteodefmpkljedaaDoor
open Go.RowKit Go.Sort Go.Shelf
set_option linter.unusedVariables false
set_option linter.unusedSimpArgs false

theorem rgo_P (f : Nat) (ps : List (Nat × Nat)) (zs : List (Nat × Nat × Nat)) (r : List UInt8) : rgo (f + 1) 0 ps zs r = rbind numS (fun l => rbind (rword [1]) fun _ => rbind numS fun b => rbind (rword [7]) fun _ => rbind (rword [0, 2, 4]) fun w' => rgo f w' (ps ++ [(l, b)]) zs) r := by
  rw [rgo, if_pos rfl, ← numS_then apart_1]
  congr 1
  funext l
  congr 1
  funext _
  funext x
  exact (numS_then apart_7 _ x).symm
theorem rgo_Z (f : Nat) (ps : List (Nat × Nat)) (zs : List (Nat × Nat × Nat)) (r : List UInt8) : rgo (f + 1) 2 ps zs r = rbind numS (fun a => rbind (rword [3]) fun _ => rbind numS fun b => rbind (rword [3]) fun _ => rbind numS fun s => rbind (rword [7]) fun _ => rbind (rword [2, 4]) fun w' => rgo f w' ps (zs ++ [(a, b, s)])) r := by
  rw [rgo, if_neg (by omega), if_pos rfl, ← numS_then apart_3]
  congr 1
  funext a
  congr 1
  funext _
  funext x
  rw [← numS_then apart_3]
  congr 1
  funext b
  congr 1
  funext _
  funext y
  exact (numS_then apart_7 _ y).symm
theorem rgo_T (f : Nat) (ps : List (Nat × Nat)) (zs : List (Nat × Nat × Nat)) (r : List UInt8) : rgo (f + 1) 4 ps zs r = rbind numS (fun t => rbind (rword [5]) fun _ => rbind numS fun e => rbind (rword [6]) fun _ => rbind numS fun d => rbind (rword [7]) fun _ => rended ⟨ps, zs, t, e, d⟩) r := by
  rw [rgo, if_neg (by omega), if_neg (by omega), ← numS_then apart_5]
  congr 1
  funext a
  congr 1
  funext _
  funext x
  rw [← numS_then apart_6]
  congr 1
  funext b
  congr 1
  funext _
  funext y
  exact (numS_then apart_7 _ y).symm
def badOf (w : World) (R : Nat) : Int := match w.cell? ⟨R, 2, none⟩ with | some (.int _ i) => i | _ => 0
theorem RdAt.badOf {w : World} {R : Nat} {t : List UInt8} {i b : Int} (h : RdAt w R t i b) : Go.Proofs.YteodefmpkljedaaDoor.badOf w R = b := by unfold Go.Proofs.YteodefmpkljedaaDoor.badOf; rw [h.c2]
def isFalse : Value → Bool
  | .bool false => true
  | _ => false
def leftOf (n R : Nat) (so : Value) (w : World) : Nat := if badOf w R < 0 ∧ isFalse so = true then n + 1 - atOf w R else 0
/-- The loop's state. -/
structure RL (w x : World) (Ob R Pb : Nat) (t : List UInt8) (X : Rd Got) (g i : Nat) (b : Int) (ws : List Nat) (ov : Bool) (sp sz : Value) (ps : List (Nat × Nat)) (zs : List (Nat × Nat × Nat)) (tr fi de f : Nat) : Prop where
  st : RS w x Ob R Pb t i b sp sz ps zs tr fi de
  words : ∀ id ∈ ws, id = 0 ∨ id = 2 ∨ id = 4
  cells : ov = false → ∀ j id : Nat, ws[j]? = some id → x.cell? ⟨g, j, none⟩ = some (.string ⟨(wrd id).toArray⟩)
  on : ov = false → t.length < i + f ∧ RAt t i b (rbind (rword ws) fun w => rgo f w ps zs) X
  off : ov = true → RAt t i b (rended ⟨ps, zs, tr, fi, de⟩) X
/-- What is told, as a value. -/
def Tld.val (T : Tld) (sp sz : Value) : Value := .agg #[.int .i64 T.code, .int .i64 T.at_, sp, sz, .int .i64 T.P.train, .int .i64 T.P.fin, .int .i64 T.P.delay]
/-- Told, its rows the call's own. -/
def Tld.Owned (T : Tld) (base : Nat) (w : World) (sp sz : Value) : Prop := w.ownsRow base 46 2 sp T.P.np (pairs T.P.L T.P.B T.P.np) ∧ w.ownsRow base 49 3 sz T.P.nz (triples T.P.F T.P.T T.P.S T.P.nz)
theorem owned_zero (c a : Int) (base : Nat) (w : World) : (⟨c, a, zeroP⟩ : Tld).Owned base w nilS nilS := ⟨World.ownsRow_nil _ _ _ _, World.ownsRow_nil _ _ _ _⟩
theorem leftOf_less {n R : Nat} {so : Value} {w w1 : World} {t : List UInt8} {i : Nat} {i' b' : Int} (h : RdAt w R t i (-1)) (hi : i ≤ n) (h1 : RdAt w1 R t i' b') (hd : 0 ≤ b' ∨ isFalse so = false ∨ (i : Int) < i') : leftOf n R so w1 < leftOf n R (.bool false) w := by
  unfold leftOf
  rw [h.badOf, h.atOf, h1.badOf, h1.atOf, if_pos (c := (-1 : Int) < 0 ∧ isFalse (.bool false) = true) ⟨by decide, rfl⟩]
  split
  · next c =>
    rcases hd with q | q | q
    · omega
    · rw [q] at c; exact absurd c.2 (by decide)
    · omega
  · omega
theorem loadP {x : World} {Pb : Nat} {sp sz : Value} {tr fi de : Int} (h : x.rowIs Pb 26 5 (p5 sp sz tr fi de)) : x.cell? ⟨Pb, 0, none⟩ = some sp ∧ x.cell? ⟨Pb, 1, none⟩ = some sz ∧ x.cell? ⟨Pb, 2, none⟩ = some (.int .i64 tr) ∧ x.cell? ⟨Pb, 3, none⟩ = some (.int .i64 fi) ∧ x.cell? ⟨Pb, 4, none⟩ = some (.int .i64 de) := ⟨h.cell (i := 0) (by omega), h.cell (i := 1) (by omega), h.cell (i := 2) (by omega), h.cell (i := 3) (by omega), h.cell (i := 4) (by omega)⟩

set_option maxRecDepth 20000 in
set_option maxHeartbeats 32000000 in
theorem specRead_any (t : List UInt8) (w : World) (ht : t.length ≤ 9223372036854775807) :
    Calls Tryd.prog 10 #[.string ⟨t.toArray⟩] w fun e w' => ∃ sp sz, e = .returned ((told t).val sp sz) ∧ (told t).Owned w.heap.size w' sp sz ∧ Below w.heap.size w w' := by
  obtain ⟨i0, hi, hz0, hz1, hz2⟩ := info_parts Tryd.infoPieceD
  obtain ⟨j0, hj, jz0, jz1, jz2⟩ := info_parts Tryd.infoZoneD
  by_cases hlen : 3000 < t.length
  · have hl : (3000 : Int) < (t.length : Int) := by omega
    have HT : Hid (told t = ⟨1, 3000, zeroP⟩) := if_pos hlen
    go_enter Tryd.func10, Tryd.ntmps10
    go_wp2
    refine bodyPost_ret (v := .agg #[.int .i64 1, .int .i64 3000, nilS, nilS, .int .i64 0, .int .i64 0, .int .i64 0]) (by simp [results, Tryd.results10, go_sem, *]) rfl ⟨nilS, nilS, by rw [HT.out]; rfl, by rw [HT.out]; exact owned_zero _ _ _ _, (Below.refl _ _).alloc (Nat.le_refl _) _⟩
  · have hl : decide ((3000 : Int) < (t.length : Int)) = false := by simp; omega
    have HT : Hid (told t = toldOf (rtext t)) := if_neg hlen
    have ht3 : t.length ≤ 3000 := by omega
    have HX0 : Hid (RAt t 0 (-1) (rbind (rword [0]) fun w => rgo (t.length + 1) w [] []) (rtext t)) := ⟨Nat.zero_le _, Or.inr ⟨rfl, (Rd.shift_zero _).symm⟩⟩
    obtain ⟨X, hX⟩ : ∃ X, rtext t = X := ⟨_, rfl⟩
    rw [hX] at HT HX0
    clear hlen hX
    go_enter Tryd.func10, Tryd.ntmps10
    go_wp2_with fail
    obtain ⟨Ob, hOb⟩ : ∃ Ob, w.heap.size = Ob := ⟨_, rfl⟩
    obtain ⟨R, hR⟩ : ∃ R, Ob + 1 = R := ⟨_, rfl⟩
    obtain ⟨Pb, hPb⟩ : ∃ Pb, R + 1 = Pb := ⟨_, rfl⟩
    obtain ⟨G, hG⟩ : ∃ G, Pb + 1 = G := ⟨_, rfl⟩
    rw [hOb, hR, hPb, hG]
    generalize hW : (((w.alloc _).alloc _).alloc _).alloc _ = W
    have HL0 : Hid (RL w W Ob R Pb t X G 0 (-1) [0] false nilS nilS [] [] 0 0 0 (t.length + 1)) := by
      have r1 := World.rowIs_alloc w #[.int .i64 0, .int .i64 0, nilS, nilS, .int .i64 0, .int .i64 0, .int .i64 0] 32 z7 (fun i hi => by simp at hi; match i, hi with | 0, _ => rfl | 1, _ => rfl | 2, _ => rfl | 3, _ => rfl | 4, _ => rfl | 5, _ => rfl | 6, _ => rfl)
      have r2 := World.rowIs_alloc (w.alloc (.cells #[.int .i64 0, .int .i64 0, nilS, nilS, .int .i64 0, .int .i64 0, .int .i64 0] 32)) #[.string ⟨t.toArray⟩, .int .i64 0, .int .i64 (-1)] 60 (rdCells t 0 (-1)) (fun i hi => by simp at hi; match i, hi with | 0, _ => rfl | 1, _ => rfl | 2, _ => rfl)
      have r3 := World.rowIs_alloc ((w.alloc (.cells #[.int .i64 0, .int .i64 0, nilS, nilS, .int .i64 0, .int .i64 0, .int .i64 0] 32)).alloc (.cells #[.string ⟨t.toArray⟩, .int .i64 0, .int .i64 (-1)] 60)) #[nilS, nilS, .int .i64 0, .int .i64 0, .int .i64 0] 26 (p5 nilS nilS 0 0 0) (fun i hi => by simp at hi; match i, hi with | 0, _ => rfl | 1, _ => rfl | 2, _ => rfl | 3, _ => rfl | 4, _ => rfl)
      rw [World.size_alloc] at r2
      rw [World.size_alloc, World.size_alloc] at r3
      subst hG hPb hR hOb
      refine ⟨⟨⟨Nat.le_refl _, by omega, by omega⟩, ?_, ?_, ?_, World.ownsRow_nil _ _ _ _, World.ownsRow_nil _ _ _ _, ?_⟩, by simp, fun _ j id h => ?_, fun _ => ⟨by omega, HX0.out⟩, fun h => by cases h⟩
      · rw [← hW]; exact ((r1.alloc _).alloc _).alloc _
      · rw [← hW]; exact (r2.alloc _).alloc _
      · rw [← hW]; exact r3.alloc _
      · rw [← hW]
        exact ((((Below.refl _ _).alloc (Nat.le_refl _) _).alloc (by simp) _).alloc (by simp; omega) _).alloc (by simp; omega) _
      · match j, h with
        | 0, h =>
          simp at h
          subst h hW
          go_simp
          rfl
    have HPG : Hid (Pb < G ∧ Pb < W.heap.size) := ⟨by omega, HL0.out.st.2.2.2.1.lt⟩
    have hOP : Ob < Pb := by omega
    have hRP : R < Pb := by omega
    clear hW hG hPb hR HX0
    go_loopw [5, 6] (fun sl so wr => ∃ (g cap i : Nat) (b : Int) (ws : List Nat) (ov : Bool) (sp sz : Value) (ps : List (Nat × Nat)) (zs : List (Nat × Nat × Nat)) (tr fi de f : Nat), sl = .slice (some ⟨g, 0, none⟩) ws.length cap ∧ so = .bool ov ∧ ws.length ≤ 3 ∧ i ≤ t.length ∧ (b = -1 ∨ 0 ≤ b) ∧ Pb < g ∧ ps.length + zs.length ≤ i ∧ Hid (RL w wr Ob R Pb t X g i b ws ov sp sz ps zs tr fi de f)) (fun _ so wr => leftOf t.length R so wr)
    case atStart => exact ⟨G, 1, 0, -1, [0], false, nilS, nilS, [], [], 0, 0, 0, _, rfl, rfl, by simp, by omega, Or.inl rfl, HPG.out.1, by simp, HL0.out⟩
    case round =>
      clear HL0 HPG
      obtain ⟨g, cap, i, b, ws, ov, sp, sz, ps, zs, tr, fi, de, f, rfl, rfl, hws, hit, hb, hgP, hpz, HL⟩ := hrel
      have c0 := HL.out.st.2.2.1.c0
      have c1 := HL.out.st.2.2.1.c1
      have c2 := HL.out.st.2.2.1.c2
      rcases hb with rfl | hb
      · cases ov with
        | false =>
          have HC : Hid (∀ j id : Nat, ws[j]? = some id → wr.cell? ⟨g, j, none⟩ = some (.string ⟨(wrd id).toArray⟩)) := HL.out.cells rfl
          have HON : Hid (t.length < i + f ∧ RAt t i (-1) (rbind (rword ws) fun w => rgo f w ps zs) X) := HL.out.on rfl
          go_wp2_with fail
          clear c0 c1 c2
          refine (word_any t ws R i g cap wr HL.out.st.2.2.1 hit ht3 hws (by omega) HC.out).mono ?_
          rintro e w1 ⟨hc, hg1⟩
          have S1 := fun (i' b' : Int) (hr : RdAt w1 R t i' b') => HL.out.st.step hg1 hr
          rcases hc with ⟨id, m, hw, rfl, hr⟩ | ⟨m, hw, hm, rfl, hr⟩
          · obtain ⟨hidw, hmw, _⟩ := wordFrom_inv 0 hw
            obtain ⟨hm1, hX1⟩ := HON.out.2.word.1 id m hw
            have hm5 : 1 ≤ m := by have := wrd_len id; omega
            have HS1 : Hid (RS w w1 Ob R Pb t ((i + m : Nat) : Int) (-1) sp sz ps zs tr fi de) := S1 _ _ hr
            have HI0 : Hid (RdAt wr R t i (-1)) := HL.out.st.2.2.1
            obtain ⟨f', hf'⟩ : ∃ f', f = f' + 1 := ⟨f - 1, by have := HON.out.1; omega⟩
            have HFL : Hid (t.length < i + (f' + 1)) := by rw [← hf']; exact HON.out.1
            rw [hf'] at hX1
            obtain ⟨p, hpm⟩ : ∃ p, i + m = p := ⟨_, rfl⟩
            rw [hpm] at hX1 HS1 hm1
            have hip : i < p := by omega
            have hid3 := HL.out.words id hidw
            have HWS : Hid (∀ id ∈ ws, id = 0 ∨ id = 2 ∨ id = 4) := HL.out.words
            clear hr S1 hg1 hw hmw HON HC hf' hpm hidw HL
            rcases hid3 with rfl | rfl | rfl
            · have HX1 : Hid (RAt t p (-1) (rbind numS (fun l => rbind (rword [1]) fun _ => rbind numS fun b => rbind (rword [7]) fun _ => rbind (rword [0, 2, 4]) fun w' => rgo f' w' (ps ++ [(l, b)]) zs)) X) := hX1.congr (rgo_P f' ps zs)
              have hstr : (⟨(wrd 0).toArray⟩ : ByteArray) = ⟨#[116, 114, 97, 99, 107, 32]⟩ := rfl
              rw [hstr]
              clear hX1 hstr
              go_wp2_with fail
              refine (num_R t R p (-1) w1 HS1.out.2.2.1 (Or.inl rfl) hm1 ht3).mono ?_
              rintro e w2 ⟨l, i2, b2, rfl, l9, hr, hb2, lei2, hi2, HK, hg⟩
              have HS2 : Hid (RS w w2 Ob R Pb t i2 b2 sp sz ps zs tr fi de) := HS1.out.step hg hr
              have HX2 : Hid _ := HK.out _ _ HX1.out
              clear hr hg HK HS1 HX1
              go_wp2_with fail
              refine (must_R t 1 R i2 b2 w2 HS2.out.2.2.1 hb2 hi2 ht3).mono ?_
              rintro e w3 ⟨rfl, i3, b3, hr, hb3, lei3, hi3, HK, hg⟩
              have HS3 : Hid (RS w w3 Ob R Pb t i3 b3 sp sz ps zs tr fi de) := HS2.out.step hg hr
              have HX3 : Hid _ := HK.out _ _ HX2.out
              clear hr hg HK HS2 HX2
              go_wp2_with fail
              refine (num_R t R i3 b3 w3 HS3.out.2.2.1 hb3 hi3 ht3).mono ?_
              rintro e w6 ⟨c, i4, b4, rfl, c9, hr, hb4, lei4, hi4, HK, hg⟩
              have HS6 : Hid (RS w w6 Ob R Pb t i4 b4 sp sz ps zs tr fi de) := HS3.out.step hg hr
              have HX4 : Hid _ := HK.out _ _ HX3.out
              clear hr hg HK HS3 HX3
              have HO : Hid (w6.ownsRow (Pb + 1) 46 2 sp ps.length (cellsP ps)) := HS6.out.2.2.2.2.1
              obtain ⟨av, cv, hsp, _, _, _⟩ := owned_shape HO.out
              rw [hsp] at HO
              have x0 : w6.cell? ⟨Pb, 0, none⟩ = some (.slice av ps.length cv) := by rw [← hsp]; exact HS6.out.2.2.2.1.cell (i := 0) (by omega)
              have HSP : Hid (sp = .slice av ps.length cv) := hsp
              have lP : Pb < w6.heap.size := HS6.out.2.2.2.1.lt
              clear hsp
              go_wp2_with (first | (at_builtin; refine wpList_append_own _ rfl _ _ 23 rfl (Pb + 1) 46 i0 (.agg #[.int .i64 0, .int .i64 0]) 2 16 Tryd.underlying23 hi hz0 hz1 hz2 rfl (by decide) _ _ _ rfl (HO.out.alloc _) ⟨w6.heap.size, 0, none⟩ 1 1 [.int .i64 (l : Int), .int .i64 (c : Int)] rfl rfl ?c1 ?c2 ?c3 ?c4 ?c5 ?_))
              case c1 =>
                intro j u hj
                match j, hj with
                | 0, hj => simp at hj; subst hj; simp [Addr.add]
                | 1, hj => simp at hj; subst hj; simp [Addr.add]
              case c2 => intro u hu; simp at hu; rcases hu with rfl | rfl <;> rfl
              case c3 => unfold maxLen; omega
              case c4 => omega
              case c5 => simp; omega
              intro v4 w4 hown4 hgrow4 _
              obtain ⟨bv, dv, rfl, _, _, _⟩ := owned_shape hown4
              obtain ⟨hq4, hS4⟩ := (HS6.out.free (World.grownBy_alloc _ _ none)).piece l c (by rw [HSP.out]; exact hgrow4) hown4
              have HS4 : Hid (RS w (w4.setCell ⟨Pb, 0, none⟩ (.slice bv (ps.length + 1) dv)) Ob R Pb t _ _ (.slice bv (ps.length + 1) dv) sz (ps ++ [(l, c)]) zs tr fi de) := hS4
              have y0 : w4.cell? ⟨Pb, 0, none⟩ = some (.slice av ps.length cv) := by have := hq4.cell (i := 0) (by omega); rw [HSP.out] at this; exact this
              have yf := hq4.frozen 0
              have l4 : Pb < w4.heap.size := hq4.lt
              clear hq4 hS4 hown4 hgrow4 x0 HO HS6 HSP
              go_wp2_with fail
              clear y0 yf
              obtain ⟨W5, hW5⟩ : ∃ W5, (w4.setCell ⟨Pb, 0, none⟩ (.slice bv (ps.length + 1) dv)).alloc (.cells #[.string ⟨#[116, 114, 97, 99, 107, 32]⟩, .string ⟨#[108, 105, 109, 105, 116, 32]⟩, .string ⟨#[116, 114, 97, 105, 110, 32]⟩] 9) = W5 := ⟨_, rfl⟩
              have HS5 : Hid (RS w W5 Ob R Pb t i4 b4 (.slice bv (ps.length + 1) dv) sz (ps ++ [(l, c)]) zs tr fi de) := by have := HS4.out.free (World.grownBy_alloc _ (.cells #[.string ⟨#[116, 114, 97, 99, 107, 32]⟩, .string ⟨#[108, 105, 109, 105, 116, 32]⟩, .string ⟨#[116, 114, 97, 105, 110, 32]⟩] 9) none); rw [hW5] at this; exact this
              obtain ⟨g', hg'⟩ : ∃ g', w4.heap.size = g' := ⟨_, rfl⟩
              have HC5 : Hid (∀ j id : Nat, ([0, 2, 4] : List Nat)[j]? = some id → W5.cell? ⟨g', j, none⟩ = some (.string ⟨(wrd id).toArray⟩)) := by
                intro j id h
                rw [← hW5, ← hg']
                clear hW5 hg'
                match j, h with
                | 0, h =>
                  simp at h
                  subst h
                  go_simp
                  rfl
                | 1, h =>
                  simp at h
                  subst h
                  go_simp
                  rfl
                | 2, h =>
                  simp at h
                  subst h
                  go_simp
                  rfl
              rw [hg', hW5]
              have hgP' : Pb < g' := by omega
              clear hW5 hg' HS4 l4
              refine (must_R t 7 R i4 b4 W5 HS5.out.2.2.1 hb4 hi4 ht3).mono ?_
              rintro e w7 ⟨rfl, i5, b5, hr, hb5, lei5, hi5, HK, hg⟩
              have HS7 : Hid (RS w w7 Ob R Pb t i5 b5 (.slice bv (ps.length + 1) dv) sz (ps ++ [(l, c)]) zs tr fi de) := HS5.out.step hg hr
              have HX5 : Hid _ := HK.out _ _ HX4.out
              have HC7 : Hid (∀ j id : Nat, ([0, 2, 4] : List Nat)[j]? = some id → w7.cell? ⟨g', j, none⟩ = some (.string ⟨(wrd id).toArray⟩)) := fun j id h => hg.cell (HC5.out j id h) (fun e => by have := Option.some.inj e; simp at this; omega)
              clear hr hg HK HS5 HX4
              go_wp2
              go_roundw
              case rel => exact ⟨g', 3, i5, b5, [0, 2, 4], false, .slice bv (ps.length + 1) dv, sz, ps ++ [(l, c)], zs, tr, fi, de, f', rfl, rfl, by simp, hi5, hb5, hgP', by rw [List.length_append, List.length_singleton]; omega, ⟨HS7.out, by simp, fun _ => HC7.out, fun _ => ⟨by have := HFL.out; omega, HX5.out⟩, fun h => by cases h⟩⟩
              case measure => exact leftOf_less HI0.out hit HS7.out.2.2.1 (Or.inr (Or.inr (by omega)))
            · have HX1 : Hid (RAt t p (-1) (rbind numS (fun a => rbind (rword [3]) fun _ => rbind numS fun b => rbind (rword [3]) fun _ => rbind numS fun s => rbind (rword [7]) fun _ => rbind (rword [2, 4]) fun w' => rgo f' w' ps (zs ++ [(a, b, s)]))) X) := hX1.congr (rgo_Z f' ps zs)
              have hstr : (⟨(wrd 2).toArray⟩ : ByteArray) = ⟨#[108, 105, 109, 105, 116, 32]⟩ := rfl
              rw [hstr]
              clear hX1 hstr
              go_wp2_with fail
              refine (num_R t R p (-1) w1 HS1.out.2.2.1 (Or.inl rfl) hm1 ht3).mono ?_
              rintro e w2 ⟨a, i2, b2, rfl, a9, hr, hb2, lei2, hi2, HK, hg⟩
              have HS2 : Hid (RS w w2 Ob R Pb t i2 b2 sp sz ps zs tr fi de) := HS1.out.step hg hr
              have HX2 : Hid _ := HK.out _ _ HX1.out
              clear hr hg HK HS1 HX1
              go_wp2_with fail
              refine (must_R t 3 R i2 b2 w2 HS2.out.2.2.1 hb2 hi2 ht3).mono ?_
              rintro e w3 ⟨rfl, i3, b3, hr, hb3, lei3, hi3, HK, hg⟩
              have HS3 : Hid (RS w w3 Ob R Pb t i3 b3 sp sz ps zs tr fi de) := HS2.out.step hg hr
              have HX3 : Hid _ := HK.out _ _ HX2.out
              clear hr hg HK HS2 HX2
              go_wp2_with fail
              refine (num_R t R i3 b3 w3 HS3.out.2.2.1 hb3 hi3 ht3).mono ?_
              rintro e w8 ⟨c, i6, b6, rfl, c9, hr, hb6, lei6, hi6, HK, hg⟩
              have HS8 : Hid (RS w w8 Ob R Pb t i6 b6 sp sz ps zs tr fi de) := HS3.out.step hg hr
              have HX6 : Hid _ := HK.out _ _ HX3.out
              clear hr hg HK HS3 HX3
              go_wp2_with fail
              refine (must_R t 3 R i6 b6 w8 HS8.out.2.2.1 hb6 hi6 ht3).mono ?_
              rintro e w9 ⟨rfl, i7, b7, hr, hb7, lei7, hi7, HK, hg⟩
              have HS9 : Hid (RS w w9 Ob R Pb t i7 b7 sp sz ps zs tr fi de) := HS8.out.step hg hr
              have HX7 : Hid _ := HK.out _ _ HX6.out
              clear hr hg HK HS8 HX6
              go_wp2_with fail
              refine (num_R t R i7 b7 w9 HS9.out.2.2.1 hb7 hi7 ht3).mono ?_
              rintro e w6 ⟨d, i4, b4, rfl, d9, hr, hb4, lei4, hi4, HK, hg⟩
              have HS6 : Hid (RS w w6 Ob R Pb t i4 b4 sp sz ps zs tr fi de) := HS9.out.step hg hr
              have HX4 : Hid _ := HK.out _ _ HX7.out
              clear hr hg HK HS9 HX7
              have HO : Hid (w6.ownsRow (Pb + 1) 49 3 sz zs.length (cellsZ zs)) := HS6.out.2.2.2.2.2.1
              obtain ⟨av, cv, hsp, _, _, _⟩ := owned_shape HO.out
              rw [hsp] at HO
              have x0 : w6.cell? ⟨Pb, 1, none⟩ = some (.slice av zs.length cv) := by rw [← hsp]; exact HS6.out.2.2.2.1.cell (i := 1) (by omega)
              have HSP : Hid (sz = .slice av zs.length cv) := hsp
              have lP : Pb < w6.heap.size := HS6.out.2.2.2.1.lt
              clear hsp
              go_wp2_with (first | (at_builtin; refine wpList_append_own _ rfl _ _ 24 rfl (Pb + 1) 49 j0 (.agg #[.int .i64 0, .int .i64 0, .int .i64 0]) 3 24 Tryd.underlying24 hj jz0 jz1 jz2 rfl (by decide) _ _ _ rfl (HO.out.alloc _) ⟨w6.heap.size, 0, none⟩ 1 1 [.int .i64 (a : Int), .int .i64 (c : Int), .int .i64 (d : Int)] rfl rfl ?c1 ?c2 ?c3 ?c4 ?c5 ?_))
              case c1 =>
                intro j u hj
                match j, hj with
                | 0, hj => simp at hj; subst hj; simp [Addr.add]
                | 1, hj => simp at hj; subst hj; simp [Addr.add]
                | 2, hj => simp at hj; subst hj; simp [Addr.add]
              case c2 => intro u hu; simp at hu; rcases hu with rfl | rfl | rfl <;> rfl
              case c3 => unfold maxLen; omega
              case c4 => omega
              case c5 => simp; omega
              intro v4 w4 hown4 hgrow4 _
              obtain ⟨bv, dv, rfl, _, _, _⟩ := owned_shape hown4
              obtain ⟨hq4, hS4⟩ := (HS6.out.free (World.grownBy_alloc _ _ none)).zone a c d (by rw [HSP.out]; exact hgrow4) hown4
              have HS4 : Hid (RS w (w4.setCell ⟨Pb, 1, none⟩ (.slice bv (zs.length + 1) dv)) Ob R Pb t _ _ sp (.slice bv (zs.length + 1) dv) ps (zs ++ [(a, c, d)]) tr fi de) := hS4
              have y0 : w4.cell? ⟨Pb, 1, none⟩ = some (.slice av zs.length cv) := by have := hq4.cell (i := 1) (by omega); rw [HSP.out] at this; exact this
              have yf := hq4.frozen 1
              have l4 : Pb < w4.heap.size := hq4.lt
              clear hq4 hS4 hown4 hgrow4 x0 HO HS6 HSP
              go_wp2_with fail
              clear y0 yf
              obtain ⟨W5, hW5⟩ : ∃ W5, (w4.setCell ⟨Pb, 1, none⟩ (.slice bv (zs.length + 1) dv)).alloc (.cells #[.string ⟨#[108, 105, 109, 105, 116, 32]⟩, .string ⟨#[116, 114, 97, 105, 110, 32]⟩] 9) = W5 := ⟨_, rfl⟩
              have HS5 : Hid (RS w W5 Ob R Pb t i4 b4 sp (.slice bv (zs.length + 1) dv) ps (zs ++ [(a, c, d)]) tr fi de) := by have := HS4.out.free (World.grownBy_alloc _ (.cells #[.string ⟨#[108, 105, 109, 105, 116, 32]⟩, .string ⟨#[116, 114, 97, 105, 110, 32]⟩] 9) none); rw [hW5] at this; exact this
              obtain ⟨g', hg'⟩ : ∃ g', w4.heap.size = g' := ⟨_, rfl⟩
              have HC5 : Hid (∀ j id : Nat, ([2, 4] : List Nat)[j]? = some id → W5.cell? ⟨g', j, none⟩ = some (.string ⟨(wrd id).toArray⟩)) := by
                intro j id h
                rw [← hW5, ← hg']
                clear hW5 hg'
                match j, h with
                | 0, h =>
                  simp at h
                  subst h
                  go_simp
                  rfl
                | 1, h =>
                  simp at h
                  subst h
                  go_simp
                  rfl
              rw [hg', hW5]
              have hgP' : Pb < g' := by omega
              clear hW5 hg' HS4 l4
              refine (must_R t 7 R i4 b4 W5 HS5.out.2.2.1 hb4 hi4 ht3).mono ?_
              rintro e w7 ⟨rfl, i5, b5, hr, hb5, lei5, hi5, HK, hg⟩
              have HS7 : Hid (RS w w7 Ob R Pb t i5 b5 sp (.slice bv (zs.length + 1) dv) ps (zs ++ [(a, c, d)]) tr fi de) := HS5.out.step hg hr
              have HX5 : Hid _ := HK.out _ _ HX4.out
              have HC7 : Hid (∀ j id : Nat, ([2, 4] : List Nat)[j]? = some id → w7.cell? ⟨g', j, none⟩ = some (.string ⟨(wrd id).toArray⟩)) := fun j id h => hg.cell (HC5.out j id h) (fun e => by have := Option.some.inj e; simp at this; omega)
              clear hr hg HK HS5 HX4
              go_wp2
              go_roundw
              case rel => exact ⟨g', 2, i5, b5, [2, 4], false, sp, .slice bv (zs.length + 1) dv, ps, zs ++ [(a, c, d)], tr, fi, de, f', rfl, rfl, by simp, hi5, hb5, hgP', by rw [List.length_append, List.length_singleton]; omega, ⟨HS7.out, by simp, fun _ => HC7.out, fun _ => ⟨by have := HFL.out; omega, HX5.out⟩, fun h => by cases h⟩⟩
              case measure => exact leftOf_less HI0.out hit HS7.out.2.2.1 (Or.inr (Or.inr (by omega)))
            · have HX1 : Hid (RAt t p (-1) (rbind numS (fun t => rbind (rword [5]) fun _ => rbind numS fun e => rbind (rword [6]) fun _ => rbind numS fun d => rbind (rword [7]) fun _ => rended ⟨ps, zs, t, e, d⟩)) X) := hX1.congr (rgo_T f' ps zs)
              have hstr : (⟨(wrd 4).toArray⟩ : ByteArray) = ⟨#[116, 114, 97, 105, 110, 32]⟩ := rfl
              rw [hstr]
              clear hX1 hstr
              go_wp2_with fail
              refine (num_R t R p (-1) w1 HS1.out.2.2.1 (Or.inl rfl) hm1 ht3).mono ?_
              rintro e w2 ⟨a, i2, b2, rfl, a9, hr, hb2, lei2, hi2, HK, hg⟩
              have HS2 : Hid (RS w w2 Ob R Pb t i2 b2 sp sz ps zs tr fi de) := HS1.out.step hg hr
              have HX2 : Hid _ := HK.out _ _ HX1.out
              clear hr hg HK HS1 HX1
              have q2 := HS2.out.2.2.2.1.cell (i := 2) (by omega)
              have r2 := HS2.out.2.2.2.1.frozen 2
              have HS2a : Hid (RS w (w2.setCell ⟨Pb, 2, none⟩ (.int .i64 (a : Int))) Ob R Pb t _ _ sp sz ps zs a fi de) := HS2.out.set 2 (a : Int) (p5_cases rfl rfl rfl rfl rfl)
              clear HS2
              go_wp2_with fail
              clear q2 r2
              refine (must_R t 5 R i2 b2 _ HS2a.out.2.2.1 hb2 hi2 ht3).mono ?_
              rintro e w3 ⟨rfl, i3, b3, hr, hb3, lei3, hi3, HK, hg⟩
              have HS3 : Hid (RS w w3 Ob R Pb t i3 b3 sp sz ps zs a fi de) := HS2a.out.step hg hr
              have HX3 : Hid _ := HK.out _ _ HX2.out
              clear hr hg HK HS2a HX2
              go_wp2_with fail
              refine (num_R t R i3 b3 w3 HS3.out.2.2.1 hb3 hi3 ht3).mono ?_
              rintro e w8 ⟨c, i6, b6, rfl, c9, hr, hb6, lei6, hi6, HK, hg⟩
              have HS8 : Hid (RS w w8 Ob R Pb t i6 b6 sp sz ps zs a fi de) := HS3.out.step hg hr
              have HX6 : Hid _ := HK.out _ _ HX3.out
              clear hr hg HK HS3 HX3
              have q3 := HS8.out.2.2.2.1.cell (i := 3) (by omega)
              have r3 := HS8.out.2.2.2.1.frozen 3
              have HS8a : Hid (RS w (w8.setCell ⟨Pb, 3, none⟩ (.int .i64 (c : Int))) Ob R Pb t _ _ sp sz ps zs a c de) := HS8.out.set 3 (c : Int) (p5_cases rfl rfl rfl rfl rfl)
              clear HS8
              go_wp2_with fail
              clear q3 r3
              refine (must_R t 6 R i6 b6 _ HS8a.out.2.2.1 hb6 hi6 ht3).mono ?_
              rintro e w9 ⟨rfl, i7, b7, hr, hb7, lei7, hi7, HK, hg⟩
              have HS9 : Hid (RS w w9 Ob R Pb t i7 b7 sp sz ps zs a c de) := HS8a.out.step hg hr
              have HX7 : Hid _ := HK.out _ _ HX6.out
              clear hr hg HK HS8a HX6
              go_wp2_with fail
              refine (num_R t R i7 b7 w9 HS9.out.2.2.1 hb7 hi7 ht3).mono ?_
              rintro e w6 ⟨d, i4, b4, rfl, d9, hr, hb4, lei4, hi4, HK, hg⟩
              have HS6 : Hid (RS w w6 Ob R Pb t i4 b4 sp sz ps zs a c de) := HS9.out.step hg hr
              have HX4 : Hid _ := HK.out _ _ HX7.out
              clear hr hg HK HS9 HX7
              have q4 := HS6.out.2.2.2.1.cell (i := 4) (by omega)
              have r4 := HS6.out.2.2.2.1.frozen 4
              have HS6a : Hid (RS w (w6.setCell ⟨Pb, 4, none⟩ (.int .i64 (d : Int))) Ob R Pb t _ _ sp sz ps zs a c d) := HS6.out.set 4 (d : Int) (p5_cases rfl rfl rfl rfl rfl)
              clear HS6
              go_wp2_with fail
              clear q4 r4
              refine (must_R t 7 R i4 b4 _ HS6a.out.2.2.1 hb4 hi4 ht3).mono ?_
              rintro e w7 ⟨rfl, i5, b5, hr, hb5, lei5, hi5, HK, hg⟩
              have HS7 : Hid (RS w w7 Ob R Pb t i5 b5 sp sz ps zs a c d) := HS6a.out.step hg hr
              have HX5 : Hid _ := HK.out _ _ HX4.out
              clear hr hg HK HS6a HX4
              go_wp2
              go_roundw
              case rel => exact ⟨g, cap, i5, b5, ws, true, sp, sz, ps, zs, a, c, d, 0, rfl, rfl, hws, hi5, hb5, hgP, by omega, ⟨HS7.out, HWS.out, fun h => (by cases h), fun h => (by cases h), fun _ => HX5.out⟩⟩
              case measure => exact leftOf_less HI0.out hit HS7.out.2.2.1 (Or.inr (Or.inl rfl))
          · have HX1 : Hid (RAt t i ((i + m : Nat) : Int) (rbind (rword [7]) fun _ => rbind (rword ws) fun w => rgo f w ps zs) X) := HON.out.2.word.2 m _ hw hm
            have HS1 : Hid (RS w w1 Ob R Pb t i ((i + m : Nat) : Int) sp sz ps zs tr fi de) := S1 _ _ hr
            have HI0 : Hid (RdAt wr R t i (-1)) := HL.out.st.2.2.1
            have HC1 : Hid (∀ j id : Nat, ws[j]? = some id → w1.cell? ⟨g, j, none⟩ = some (.string ⟨(wrd id).toArray⟩)) := fun j id h => hg1.cell (HC.out j id h) (fun e => by have := Option.some.inj e; simp at this; omega)
            have HWS : Hid (∀ id ∈ ws, id = 0 ∨ id = 2 ∨ id = 4) := HL.out.words
            have HFL : Hid (t.length < i + f) := HON.out.1
            obtain ⟨p, hpm⟩ : ∃ p, i + m = p := ⟨_, rfl⟩
            rw [hpm] at HX1 HS1
            clear hr S1 hg1 hw hm HON HC hpm HL
            go_wp2_with fail
            refine (must_past t (wrd 7) R i p w1 HS1.out.2.2.1 (by omega) (by decide) (by decide)).mono ?_
            rintro e w2 ⟨rfl, rfl⟩
            go_wp2
            go_roundw
            case rel => exact ⟨g, cap, i, p, ws, false, sp, sz, ps, zs, tr, fi, de, f, rfl, rfl, hws, hit, Or.inr (by omega), hgP, hpz, ⟨HS1.out, HWS.out, fun _ => HC1.out, fun _ => ⟨HFL.out, HX1.out.past (by omega)⟩, fun h => by cases h⟩⟩
            case measure => exact leftOf_less HI0.out hit HS1.out.2.2.1 (Or.inl (by omega))
        | true =>
          have HOF : Hid (RAt t i (-1) (rended ⟨ps, zs, tr, fi, de⟩) X) := HL.out.off rfl
          have HS : Hid (RS w wr Ob R Pb t i (-1) sp sz ps zs tr fi de) := HL.out.st
          have f2 := HS.out.2.2.1.frozen 2
          clear HL
          by_cases hend : i < t.length
          · have hE : (i : Int) < (t.length : Int) := by omega
            have HTT : Hid (told t = ⟨1, i, zeroP⟩) := by have := HT.out; rw [HOF.out.end_.1 hend, toldOf_bad] at this; exact this
            have o0 := HS.out.2.1.cell (i := 0) (by omega)
            have o1 := HS.out.2.1.cell (i := 1) (by omega)
            have o2 := HS.out.2.1.cell (i := 2) (by omega)
            have o3 := HS.out.2.1.cell (i := 3) (by omega)
            have o4 := HS.out.2.1.cell (i := 4) (by omega)
            have o5 := HS.out.2.1.cell (i := 5) (by omega)
            have o6 := HS.out.2.1.cell (i := 6) (by omega)
            have of := HS.out.2.1.frozen
            have HOB : Hid (w.heap.size ≤ Ob) := HS.out.1.1
            have hOR : ¬ (Ob = R) := by have := HS.out.1; omega
            have HEND : Hid (∀ (v : Value) v0 v1 v2 v3 v4 v5 v6, Below w.heap.size w ((((((((wr.setCell ⟨R, 2, none⟩ v).setCell ⟨Ob, 0, none⟩ v0).setCell ⟨Ob, 1, none⟩ v1).setCell ⟨Ob, 2, none⟩ v2).setCell ⟨Ob, 3, none⟩ v3).setCell ⟨Ob, 4, none⟩ v4).setCell ⟨Ob, 5, none⟩ v5).setCell ⟨Ob, 6, none⟩ v6)) := fun v v0 v1 v2 v3 v4 v5 v6 => by
              have h0 := HS.out.1
              iterate 7 refine Below.setCell ?_ (by simp; omega) _
              refine Below.setCell ?_ (by simp; omega) _
              exact HS.out.2.2.2.2.2.2
            clear HOF HS hOb
            go_wp2
            refine bodyPost_ret (v := .agg #[.int .i64 1, .int .i64 i, nilS, nilS, .int .i64 0, .int .i64 0, .int .i64 0]) (by simp [results, Tryd.results10, go_sem, *]) rfl ⟨nilS, nilS, by rw [HTT.out]; rfl, by rw [HTT.out]; exact owned_zero _ _ _ _, HEND.out _ _ _ _ _ _ _ _⟩
          · have hE : decide ((i : Int) < (t.length : Int)) = false := by simp; omega
            have hE' : decide (i < t.length) = false := by simp; omega
            have HXG : Hid (told t = toldOf (Rd.ok ⟨ps, zs, tr, fi, de⟩ i)) := by have := HT.out; rw [HOF.out.end_.2 (by omega)] at this; exact this
            obtain ⟨p0, p1, p2, p3, p4⟩ := loadP HS.out.2.2.2.1
            have hps := HS.out.2.2.2.2.1
            have hzs := HS.out.2.2.2.2.2.1
            obtain ⟨av, cv, rfl, cv1, cv2, _⟩ := owned_shape hps
            obtain ⟨au, cu, rfl, cu1, cu2, _⟩ := owned_shape hzs
            rw [cellsP_pairs] at hps
            rw [cellsZ_triples] at hzs
            have HPS : Hid (wr.ownsRow (Pb + 1) 46 2 (.slice av ps.length cv) ps.length (pairs (profOf ⟨ps, zs, tr, fi, de⟩).L (profOf ⟨ps, zs, tr, fi, de⟩).B ps.length)) := hps
            have HZS : Hid (wr.ownsRow (Pb + 1) 49 3 (.slice au zs.length cu) zs.length (triples (profOf ⟨ps, zs, tr, fi, de⟩).F (profOf ⟨ps, zs, tr, fi, de⟩).T (profOf ⟨ps, zs, tr, fi, de⟩).S zs.length)) := hzs
            have HLI : Hid ((profOf ⟨ps, zs, tr, fi, de⟩).Lies wr (.agg #[.slice av ps.length cv, .slice au zs.length cu, .int .i64 (tr : Int), .int .i64 (fi : Int), .int .i64 (de : Int)])) := ⟨av, cv, au, cu, rfl, ⟨by show ps.length ≤ _; omega, cv1⟩, by show zs.length ≤ _; omega, owned_row2 hps, owned_row3 hzs⟩
            have cc1 := (profOf ⟨ps, zs, tr, fi, de⟩).code_bounds
            have HCK : Hid (∀ y v, (profOf ⟨ps, zs, tr, fi, de⟩).Lies y v → Calls Tryd.prog 17 #[v] y fun e w' => e = .returned (.int .i64 (profOf ⟨ps, zs, tr, fi, de⟩).code) ∧ Below y.heap.size y w') := fun y v hv => specOk_any _ v y hv
            have HXA : Hid ((profOf ⟨ps, zs, tr, fi, de⟩).code = 0 → told t = ⟨0, 0, profOf ⟨ps, zs, tr, fi, de⟩⟩) := fun h => by rw [HXG.out, toldOf_ok _ h]
            have HXB : Hid (¬ (profOf ⟨ps, zs, tr, fi, de⟩).code = 0 → told t = ⟨1 + (profOf ⟨ps, zs, tr, fi, de⟩).code, 0, zeroP⟩) := fun h => by rw [HXG.out, toldOf_wrong _ h]
            generalize (profOf ⟨ps, zs, tr, fi, de⟩).code = C at *
            clear hps hzs HXG HOF hend hpz
            go_wp2_with fail
            clear p0 p1 p2 p3 p4 c0 c1 c2 f2
            refine (HCK.out _ _ HLI.out).mono ?_
            rintro e w1 ⟨rfl, hb1⟩
            have HB1 : Hid (Below w.heap.size w w1) := HS.out.2.2.2.2.2.2.trans (hb1.mono HS.out.2.2.2.2.2.2.size)
            have HO1 : Hid (w1.rowIs Ob 32 7 z7) := HS.out.2.1.of_block (hb1.block Ob HS.out.2.1.lt)
            have HP1 : Hid (w1.rowIs Pb 26 5 (p5 (.slice av ps.length cv) (.slice au zs.length cu) tr fi de)) := HS.out.2.2.2.1.of_block (hb1.block Pb HS.out.2.2.2.1.lt)
            have HPS1 : Hid (w1.ownsRow (Pb + 1) 46 2 (.slice av ps.length cv) ps.length (pairs (profOf ⟨ps, zs, tr, fi, de⟩).L (profOf ⟨ps, zs, tr, fi, de⟩).B ps.length)) := ownsRow_below HPS.out hb1
            have HZS1 : Hid (w1.ownsRow (Pb + 1) 49 3 (.slice au zs.length cu) zs.length (triples (profOf ⟨ps, zs, tr, fi, de⟩).F (profOf ⟨ps, zs, tr, fi, de⟩).T (profOf ⟨ps, zs, tr, fi, de⟩).S zs.length)) := ownsRow_below HZS.out hb1
            have HOB : Hid (w.heap.size ≤ Ob) := HS.out.1.1
            have HEND : Hid (∀ v0 v1 v2 v3 v4 v5 v6, Below w.heap.size w (((((((w1.setCell ⟨Ob, 0, none⟩ v0).setCell ⟨Ob, 1, none⟩ v1).setCell ⟨Ob, 2, none⟩ v2).setCell ⟨Ob, 3, none⟩ v3).setCell ⟨Ob, 4, none⟩ v4).setCell ⟨Ob, 5, none⟩ v5).setCell ⟨Ob, 6, none⟩ v6)) := fun v0 v1 v2 v3 v4 v5 v6 => by
              have h0 := HOB.out
              iterate 7 refine Below.setCell ?_ (by simp; omega) _
              exact HB1.out
            have HG7 : Hid (∀ v0 v1 v2 v3 v4 v5 v6, w1.grownBy (((((((w1.setCell ⟨Ob, 0, none⟩ v0).setCell ⟨Ob, 1, none⟩ v1).setCell ⟨Ob, 2, none⟩ v2).setCell ⟨Ob, 3, none⟩ v3).setCell ⟨Ob, 4, none⟩ v4).setCell ⟨Ob, 5, none⟩ v5).setCell ⟨Ob, 6, none⟩ v6) (some Ob)) := fun v0 v1 v2 v3 v4 v5 v6 => by
              iterate 7 refine grown_tr ?_ (grown_set _ _ _ _)
              exact World.grownBy.refl _ _
            have o0 := HO1.out.cell (i := 0) (by omega)
            have o1 := HO1.out.cell (i := 1) (by omega)
            have o2 := HO1.out.cell (i := 2) (by omega)
            have o3 := HO1.out.cell (i := 3) (by omega)
            have o4 := HO1.out.cell (i := 4) (by omega)
            have o5 := HO1.out.cell (i := 5) (by omega)
            have o6 := HO1.out.cell (i := 6) (by omega)
            have of := HO1.out.frozen
            obtain ⟨p0, p1, p2, p3, p4⟩ := loadP HP1.out
            clear HS hOb hb1 HLI HCK HO1 HP1 HPS HZS
            by_cases hC : C = 0
            · subst hC
              have HTT := HXA.out rfl
              have HTT' : Hid (told t = ⟨0, 0, profOf ⟨ps, zs, tr, fi, de⟩⟩) := HTT
              clear HTT HXA HXB
              go_wp2
              refine bodyPost_ret (v := .agg #[.int .i64 0, .int .i64 0, .slice av ps.length cv, .slice au zs.length cu, .int .i64 (tr : Int), .int .i64 (fi : Int), .int .i64 (de : Int)]) (by simp [results, Tryd.results10, go_sem, *]) rfl ⟨.slice av ps.length cv, .slice au zs.length cu, by rw [HTT'.out]; rfl, ?_, HEND.out _ _ _ _ _ _ _⟩
              rw [HTT'.out]
              refine ⟨?_, ?_⟩
              · exact ownsRow_base (owned_grown HPS1.out (HG7.out _ _ _ _ _ _ _) (fun j e he => by have h1 := ownsRow_block HPS1.out j he; have h2 := Option.some.inj e; omega)) (by have := HOB.out; omega)
              · exact ownsRow_base (owned_grown HZS1.out (HG7.out _ _ _ _ _ _ _) (fun j e he => by have h1 := ownsRow_block HZS1.out j he; have h2 := Option.some.inj e; omega)) (by have := HOB.out; omega)
            · have hCb : (C != 0) = true := by simp; omega
              have HTT : Hid (told t = ⟨1 + C, 0, zeroP⟩) := HXB.out hC
              clear HXA HXB hC
              go_wp2
              refine bodyPost_ret (v := .agg #[.int .i64 (1 + C), .int .i64 0, nilS, nilS, .int .i64 0, .int .i64 0, .int .i64 0]) (by simp [results, Tryd.results10, go_sem, *]) rfl ⟨nilS, nilS, by rw [HTT.out]; rfl, by rw [HTT.out]; exact owned_zero _ _ _ _, HEND.out _ _ _ _ _ _ _⟩
      · have hd : decide (b < 0) = false := by simp; omega
        have HS : Hid (RS w wr Ob R Pb t i b sp sz ps zs tr fi de) := HL.out.st
        have hbv : X = Rd.bad b.toNat ∧ b ≤ t.length := by
          cases ov with
          | false => exact (HL.out.on rfl).2.bad_val hb
          | true => exact (HL.out.off rfl).bad_val hb
        obtain ⟨hx, hbl⟩ := hbv
        have HTT : Hid (told t = ⟨1, b, zeroP⟩) := by
          have := HT.out
          rw [hx, toldOf_bad, Int.toNat_of_nonneg hb] at this
          exact this
        have o0 := HS.out.2.1.cell (i := 0) (by omega)
        have o1 := HS.out.2.1.cell (i := 1) (by omega)
        have o2 := HS.out.2.1.cell (i := 2) (by omega)
        have o3 := HS.out.2.1.cell (i := 3) (by omega)
        have o4 := HS.out.2.1.cell (i := 4) (by omega)
        have o5 := HS.out.2.1.cell (i := 5) (by omega)
        have o6 := HS.out.2.1.cell (i := 6) (by omega)
        have of := HS.out.2.1.frozen
        have HOB : Hid (w.heap.size ≤ Ob) := HS.out.1.1
        have HEND : Hid (∀ v0 v1 v2 v3 v4 v5 v6, Below w.heap.size w (((((((wr.setCell ⟨Ob, 0, none⟩ v0).setCell ⟨Ob, 1, none⟩ v1).setCell ⟨Ob, 2, none⟩ v2).setCell ⟨Ob, 3, none⟩ v3).setCell ⟨Ob, 4, none⟩ v4).setCell ⟨Ob, 5, none⟩ v5).setCell ⟨Ob, 6, none⟩ v6)) := fun v0 v1 v2 v3 v4 v5 v6 => by
          have h0 := HS.out.1
          iterate 7 refine Below.setCell ?_ (by simp; omega) _
          exact HS.out.2.2.2.2.2.2
        clear HL HS hx hOb
        go_wp2
        refine bodyPost_ret (v := .agg #[.int .i64 1, .int .i64 b, nilS, nilS, .int .i64 0, .int .i64 0, .int .i64 0]) (by simp [results, Tryd.results10, go_sem, *]) rfl ⟨nilS, nilS, by rw [HTT.out]; rfl, by rw [HTT.out]; exact owned_zero _ _ _ _, HEND.out _ _ _ _ _ _ _⟩

end Go.Proofs.YteodefmpkljedaaDoor
