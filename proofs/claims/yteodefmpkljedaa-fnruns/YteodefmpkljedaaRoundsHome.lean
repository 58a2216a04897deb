/-
  The program's search from where a run may stand.
-/
import Derived.Test.YteodefmpkljedaaGoBack
namespace Go.Proofs.Yteodefmpkljedaa
open Go.RowKit Go.Sort Go.Shelf
attribute [local go_sem ↓] Go.wp_at_zero Go.wp_at_succ
set_option linter.unusedVariables false

theorem Prof.Seeds.from' {P : Prof} {x short : Int} {L : Nat → Int} {q : Nat → Nat} {m : Int} (h : ∀ s, L s < 0) (hn : ∀ d, 0 ≤ d → d < m → P.home x short d 0 = false) : P.Seeds x short L q 0 m :=
  ⟨fun j h => absurd h (Nat.not_lt_zero j), fun s g => absurd g (by have := h s; omega), fun s g => absurd g (by have := h s; omega), fun d h g k => by rw [hn d h g] at k; simp at k⟩
/-- The homes laid into the queue. -/
structure Prof.SrchS (P : Prof) (x short : Int) (n : Nat) (L A V : Nat → Int) (len : Nat) (m : Int) : Prop where
  seeds : P.Seeds x short L (fun j => stn (A j) (V j)) len m
  box : ∀ j, j < len → (0 ≤ A j ∧ A j ≤ n) ∧ (0 ≤ V j ∧ V j ≤ 60)
  low : ∀ s, -1 ≤ L s
  top : ∀ s, L s ≤ 2000
  cnt : cnt L 122061 = len
theorem Prof.SrchS.yes {P : Prof} {x short : Int} {n : Nat} {L A V : Nat → Int} {len m : Nat} (h : P.SrchS x short n L A V len m) (hm : m ≤ n) (hn : n ≤ 2000) (hh : P.home x short m 0 = true) : P.SrchS x short n (upd L (stn m 0) 0) (upd A len m) (upd V len 0) (len + 1) ((m : Int) + 1) := by
  have e2 : (fun j => stn (upd A len (m : Int) j) (upd V len 0 j)) = upd (fun j => stn (A j) (V j)) len (stn m 0) := by
    funext j
    by_cases c : j = len
    · subst c; rw [upd_same, upd_same, upd_same]
    · rw [upd_other A _ c, upd_other V _ c, upd_other _ _ c]
  have hs : stn m 0 < 122061 := by have := stn_of (d := m) (v := 0) (by omega) (by omega) (by omega); omega
  refine ⟨by rw [e2]; exact h.seeds.yes (by omega) hh, fun j hj => ?_, fun s => ?_, fun s => ?_, ?_⟩
  · by_cases c : j = len
    · subst c; rw [upd_same, upd_same]; exact ⟨⟨by omega, by omega⟩, by omega, by omega⟩
    · rw [upd_other A _ c, upd_other V _ c]; exact h.box j (by omega)
  · by_cases c : s = stn m 0
    · subst c; rw [upd_same]; omega
    · rw [upd_other L _ c]; exact h.low s
  · by_cases c : s = stn m 0
    · subst c; rw [upd_same]; omega
    · rw [upd_other L _ c]; exact h.top s
  · rw [cnt_upd (h.seeds.new (by omega)) (Int.le_refl 0) 122061 hs, h.cnt]
/-- Two stores elsewhere. -/
theorem own_two {w : World} {base e size n : Nat} {v : Value} {xs : List Value} (h : w.ownsRow base e size v n xs) {S : Nat} (hne : v.ownBlock ≠ some S) (a b : Value) : ((w.setCell ⟨S, 0, none⟩ a).setCell ⟨S, 1, none⟩ b).ownsRow base e size v n xs := by
  have h1 := owned_grown h (watch_set w S 0 a) (fun k e he => hne (by rw [he, ← e]))
  exact owned_grown h1 (watch_set _ S 1 b) (fun k e he => hne (by rw [he, ← e]))
def boolN : Value → Nat
  | .bool true => 1
  | _ => 0
theorem QAt.taken {w : World} {Q : Nat} {sv : Value} {len k : Nat} {A V : Nat → Int} (h : QAt w Q sv len k A V) : cellI w ⟨Q, 1, none⟩ = k := by
  unfold cellI
  rw [h.1.cell (i := 1) (by omega)]
  rfl
/-- What the search tells. -/
def Few.Told (Fw : Few) (P : Prof) (acc x short : Int) (L : Nat → Int) : Prop := SameTo 2000 L (Fw.few P acc x short) ∧ (∀ s, L s ≤ 2000) ∧ ∀ s, -1 ≤ L s

set_option maxRecDepth 20000 in
set_option maxHeartbeats 8000000 in
theorem roundsHome_any {Fw : Few} (P : Prof) (w : World) (g n : Nat) (acc x short : Int) (hf : P.Fit) (hx : 0 ≤ x) (hN : P.fin - x = (n : Int)) (hn : n ≤ 2000) (a0 : 1 ≤ acc) (a1 : acc ≤ 20) (s0 : 0 ≤ short) (s1 : short ≤ 2000) (hsp : P.Spots w g n x) :
    Calls Try.prog 79 #[tripV g n acc short] w fun e w' => ∃ (H : Nat) (L : Nat → Int), e = .returned (.pointer (some ⟨H, 0, none⟩)) ∧ Tab w' H L ∧ Fw.Told P acc x short L ∧ w.heap.size ≤ H ∧ Below w.heap.size w w' := by
  have HF : Hid P.Fit := hf
  have HSP : Hid (P.Spots w g n x) := hsp
  have hgl := hsp.lt
  clear hf hsp
  unfold tripV
  go_enter Try.func79, Try.ntmps79
  go_wp2_with fail
  obtain ⟨T0, hT0⟩ : ∃ T0, w.heap.size = T0 := ⟨_, rfl⟩
  obtain ⟨wa, hwa⟩ : ∃ wa, w.alloc (.cells #[.slice (some ⟨g, 0, none⟩) (n + 1) (n + 1), .int .i64 acc, .int .i64 short] 102) = wa := ⟨_, rfl⟩
  have ba : Below w.heap.size w wa := by rw [← hwa]; exact (Below.refl _ _).alloc (Nat.le_refl _) _
  have HBa : Hid (TripAt wa T0 g n acc short) := by show TripAt _ _ _ _ _ _; rw [← hwa, ← hT0]; exact TripAt.new w g n acc short
  have sa : wa.heap.size = T0 + 1 := by rw [← hwa, ← hT0]; simp
  rw [hwa]
  clear hwa
  obtain ⟨wb, hwb⟩ : ∃ wb, wa.alloc (.cells Try.zeroCells134 134) = wb := ⟨_, rfl⟩
  have bb : Below wa.heap.size wa wb := by rw [← hwb]; exact (Below.refl _ _).alloc (Nat.le_refl _) _
  have HTb : Hid (Tab wb (T0 + 1) (fun _ => -1)) := by
    show Tab _ _ _
    rw [← hwb, ← sa]
    have := World.rowIs_alloc wa Try.zeroCells134 134 (fun _ => .int .i16 0) (fun i hi => rounds_zero (by rw [Try.zeroCells134_size] at hi; exact hi))
    rw [Try.zeroCells134_size] at this
    exact this
  have sb : wb.heap.size = T0 + 1 + 1 := by rw [← hwb]; simp; omega
  rw [hwb]
  clear hwb
  obtain ⟨wc, hwc⟩ : ∃ wc, wb.alloc (.cells #[.slice none 0 0, .int .i64 0] 137) = wc := ⟨_, rfl⟩
  have bc : Below wb.heap.size wb wc := by rw [← hwc]; exact (Below.refl _ _).alloc (Nat.le_refl _) _
  have HQc : Hid (QAt wc (T0 + 1 + 1) (.slice none 0 0) 0 0 (fun _ => 0) (fun _ => 0)) := by
    show QAt _ _ _ _ _ _ _
    rw [← hwc]
    refine ⟨?_, World.ownsRow_nil _ _ _ _⟩
    have := World.rowIs_alloc wb #[.slice none 0 0, .int .i64 0] 137 (q2 (.slice none 0 0) 0) (fun i hi => by simp at hi; match i, hi with | 0, _ => rfl | 1, _ => rfl)
    rw [sb] at this
    exact this
  have sc : wc.heap.size = T0 + 3 := by rw [← hwc]; simp; omega
  rw [hwc]
  clear hwc
  have HBc : Hid (TripAt wc T0 g n acc short) := (HBa.out.below bb).below bc
  have HTc : Hid (Tab wc (T0 + 1) (fun _ => -1)) := HTb.out.below bc
  have bAll : Below w.heap.size w wc := (ba.trans (bb.mono ba.size)).trans (bc.mono (by omega))
  have HPc : Hid (P.Spots wc g n x) := HSP.out.below bAll
  clear ba bb bc HBa HTb sa sb HSP
  refine (firstHome_any wc g n acc short hn s0 s1).mono ?_
  rintro e wd ⟨rfl, hbd⟩
  have HBd : Hid (TripAt wd T0 g n acc short) := HBc.out.below hbd
  have HTd : Hid (Tab wd (T0 + 1) (fun _ => -1)) := HTc.out.below hbd
  have HQd : Hid (QAt wd (T0 + 1 + 1) (.slice none 0 0) 0 0 (fun _ => 0) (fun _ => 0)) := HQc.out.below hbd
  have HPd : Hid (P.Spots wd g n x) := HPc.out.below hbd
  have bd : Below w.heap.size w wd := bAll.trans (hbd.mono bAll.size)
  have sd : T0 + 3 ≤ wd.heap.size := by have := hbd.size; omega
  clear hbd bAll HBc HTc HQc HPc sc
  obtain ⟨f, hf0⟩ : ∃ f : Nat, max ((n : Int) - short) 0 = (f : Int) := ⟨(max ((n : Int) - short) 0).toNat, by omega⟩
  have hfn : f ≤ n := by omega
  have HHM : Hid (∀ d : Int, 0 ≤ d → d ≤ n → P.home x short d 0 = decide ((f : Int) ≤ d)) := fun d d0 d1 => by
    rw [Prof.home_first hN d0 d1, hf0]
    exact decide_eq_decide.2 ⟨fun h => h.2, fun h => ⟨rfl, h⟩⟩
  have HSE : Hid (P.SrchS x short n (fun _ => -1) (fun _ => 0) (fun _ => 0) 0 f) := ⟨Prof.Seeds.from' (fun s => by omega) (fun d q0 q1 => by rw [HHM.out d q0 (by omega)]; exact decide_eq_false (by omega)), fun j hj => absurd hj (Nat.not_lt_zero j), fun s => by omega, fun s => by omega, cnt_none (fun s => by omega) _⟩
  have k1 : Try.prog.arrayLen 134 = 2001 := by kernel_rfl
  have k2 : Try.prog.elem 134 = 132 := by kernel_rfl
  have k3 : Try.prog.arrayLen 132 = 61 := by kernel_rfl
  have k4 : Try.prog.elem 132 = 107 := by kernel_rfl
  go_wp2_with fail
  go_loopw [5] (fun sa wr => ∃ (m len : Nat) (L A V : Nat → Int) (sv : Value), sa = .int .i64 m ∧ f ≤ m ∧ m ≤ n + 1 ∧ len + f = m ∧ Hid (P.SrchS x short n L A V len m) ∧ Hid (TripAt wr T0 g n acc short) ∧ Hid (P.Spots wr g n x) ∧ Hid (Tab wr (T0 + 1) L) ∧ Hid (QAt wr (T0 + 1 + 1) sv len 0 A V) ∧ Hid (Below w.heap.size w wr) ∧ T0 + 3 ≤ wr.heap.size) (fun sa _ => n + 1 - (intOf sa).toNat)
  case atStart => exact ⟨f, 0, _, _, _, _, rfl, Nat.le_refl _, by omega, by omega, HSE.out, HBd.out, HPd.out, HTd.out, HQd.out, bd, sd⟩
  case round =>
    clear HBd HPd HTd HQd bd sd HSE
    obtain ⟨m, len, L, A, V, sv, rfl, hm1, hm2, hml, HSE, HB, HP, HT, HQ, HBL, hsz⟩ := hrel
    obtain ⟨p0, p1, p2⟩ := HB.out.cells
    by_cases hlt : m ≤ n
    · have hltI : (m : Int) < (n : Int) + 1 := by omega
      have x1 : ∀ w : World, (Instr.indexAt 134 (.pointer (some ⟨T0 + 1, 0, none⟩)) (.int .i64 m)).run Try.prog w = .ok (.pointer (some ⟨T0 + 1, m * 61, none⟩)) w := fun w => idx_rounds w (T0 + 1) m (by omega)
      have x2 : ∀ w : World, (Instr.indexAt 132 (.pointer (some ⟨T0 + 1, m * 61, none⟩)) (.int .i64 0)).run Try.prog w = .ok (.pointer (some ⟨T0 + 1, m * 61, none⟩)) w := fun w => idx_line w (T0 + 1) (m * 61) 0 (by omega)
      have hst : stn m 0 = m * 61 := by unfold stn; omega
      have HSY : Hid (P.SrchS x short n (upd L (m * 61) 0) (upd A len m) (upd V len 0) (len + 1) ((m : Int) + 1)) := by
        have := HSE.out.yes hlt hn (by rw [HHM.out m (by omega) (by omega)]; exact decide_eq_true (by omega))
        rw [hst] at this
        exact this
      have ct := HT.out.cell (i := m * 61) (by omega)
      have cf := HT.out.frozen
      go_wp2_with fail
      obtain ⟨w5, hw5⟩ : ∃ w5, wr.setCell ⟨T0 + 1, m * 61, none⟩ (.int .i16 1) = w5 := ⟨_, rfl⟩
      have HT5 : Hid (Tab w5 (T0 + 1) (upd L (m * 61) 0)) := by show Tab _ _ _; rw [← hw5]; exact HT.out.set (m * 61) 0
      have HQ5 : Hid (QAt w5 (T0 + 1 + 1) sv len 0 A V) := by show QAt _ _ _ _ _ _ _; rw [← hw5]; exact ⟨World.rowIs.setOther HQ.out.1 (by simp) _, owned_other HQ.out.2 (by simp) _⟩
      have HB5 : Hid (TripAt w5 T0 g n acc short) := by show TripAt _ _ _ _ _ _; rw [← hw5]; exact World.rowIs.setOther HB.out (by simp) _
      have HP5 : Hid (P.Spots w5 g n x) := by show Prof.Spots _ _ _ _ _; rw [← hw5]; exact World.rowIs.setOther HP.out (by simp; omega) _
      have HBL5 : Hid (Below w.heap.size w w5) := by show Below _ _ _; rw [← hw5]; exact HBL.out.setCell (by simp; omega) _
      have sz5 : T0 + 3 ≤ w5.heap.size := by rw [← hw5]; simpa using hsz
      rw [hw5]
      clear hw5 HT HQ HB HP HBL hsz p0 p1 p2 ct cf
      refine (put_any _ (T0 + 1 + 1) sv len 0 A V (m : Int) 0 HQ5.out (by omega)).mono ?_
      rintro e w6 ⟨rfl, sv', hq6, hh6⟩
      have hown := HQ5.out.own
      have HT6 : Hid (Tab w6 (T0 + 1) (upd L (m * 61) 0)) := hh6.row HT5.out (by omega) (fun e => by have := hown _ e; omega)
      have HB6 : Hid (TripAt w6 T0 g n acc short) := hh6.row HB5.out (by omega) (fun e => by have := hown _ e; omega)
      have HP6 : Hid (P.Spots w6 g n x) := hh6.row HP5.out (by omega) (fun e => by have := hown _ e; omega)
      have HBL6 : Hid (Below w.heap.size w w6) := HBL5.out.trans (hh6.below (by omega) (by omega) (fun k e => (hown _ e).1))
      have sz6 : T0 + 3 ≤ w6.heap.size := Nat.le_trans sz5 hh6.size
      have HQ6 : Hid (QAt w6 (T0 + 1 + 1) sv' (len + 1) 0 (upd A len (m : Int)) (upd V len 0)) := hq6
      clear hq6 hh6 hown HT5 HQ5 HB5 HP5 HBL5 sz5
      go_wp2
      go_roundw
      case rel => exact ⟨m + 1, len + 1, upd L (m * 61) 0, upd A len (m : Int), upd V len 0, sv', by go_num, by omega, by omega, by omega, HSY.out, HB6.out, HP6.out, HT6.out, HQ6.out, HBL6.out, sz6⟩
      case measure => simp [intOf]; omega
    · have em : m = n + 1 := by omega
      subst em
      have hlt' : decide (((n + 1 : Nat) : Int) < (n : Int) + 1) = false := by simp
      have HSR : Hid (P.Srch acc x short n L A V len 0) := ⟨HSE.out.seeds.bfs (by omega), HSE.out.box, HSE.out.low, HSE.out.top, HSE.out.cnt⟩
      have hlen1 : 1 ≤ len := by omega
      have hlen2 : len ≤ 122061 := by rw [← HSE.out.cnt]; exact cnt_le _ _
      clear HSE
      go_wp2_with fail
      refine (take_some wr (T0 + 1 + 1) sv len 0 A V HQ.out (by omega) (by omega)).mono ?_
      unfold stV
      rintro e w7 ⟨rfl, hq7, hh7⟩
      have hown := HQ.out.own
      have HT7 : Hid (Tab w7 (T0 + 1) L) := hh7.row HT.out (by omega) (fun e => by have := hown _ e; omega)
      have HB7 : Hid (TripAt w7 T0 g n acc short) := hh7.row HB.out (by omega) (fun e => by have := hown _ e; omega)
      have HP7 : Hid (P.Spots w7 g n x) := hh7.row HP.out (by omega) (fun e => by have := hown _ e; omega)
      have HBL7 : Hid (Below w.heap.size w w7) := HBL.out.trans (hh7.below (by omega) (by omega) (fun k e => (hown _ e).1))
      have sz7 : T0 + 3 ≤ w7.heap.size := Nat.le_trans hsz hh7.size
      have HQ7 : Hid (QAt w7 (T0 + 1 + 1) sv len (0 + 1) A V) := hq7
      clear hq7 hh7 hown HT HB HP HBL hsz HQ p0 p1 p2
      have HS8 : Hid (StAt (w7.alloc (.cells #[.int .i64 (A 0), .int .i64 (V 0)] 110)) w7.heap.size (A 0) (V 0)) := StAt.new w7 (A 0) (V 0)
      have bq : Below w7.heap.size w7 (w7.alloc (.cells #[.int .i64 (A 0), .int .i64 (V 0)] 110)) := (Below.refl _ _).alloc (Nat.le_refl _) _
      have HNE8 : Hid (sv.ownBlock ≠ some w7.heap.size) := fun e => by have := (HQ7.out.own _ e).2; omega
      go_wp2_with fail
      go_loopw [6, 7] (fun sp sm wr => ∃ (S i len k : Nat) (L A V : Nat → Int) (sv : Value) (mo : Bool) (d v : Int), sp = .pointer (some ⟨S, 0, none⟩) ∧ sm = .bool mo ∧ T0 + 1 + 1 < S ∧ ((mo = true ∧ k = i + 1 ∧ i < len ∧ A i = d ∧ V i = v) ∨ (mo = false ∧ k = i ∧ i = len)) ∧ Hid (P.Srch acc x short n L A V len i) ∧ Hid (StAt wr S d v) ∧ Hid (sv.ownBlock ≠ some S) ∧ Hid (TripAt wr T0 g n acc short) ∧ Hid (P.Spots wr g n x) ∧ Hid (Tab wr (T0 + 1) L) ∧ Hid (QAt wr (T0 + 1 + 1) sv len k A V) ∧ Hid (Below w.heap.size w wr)) (fun _ sm wr => 122062 - (cellI wr ⟨T0 + 1 + 1, 1, none⟩).toNat + boolN sm)
      case atStart => exact ⟨w7.heap.size, 0, len, 0 + 1, L, A, V, sv, true, A 0, V 0, rfl, rfl, by omega, Or.inl ⟨rfl, rfl, by omega, rfl, rfl⟩, HSR.out, HS8.out, HNE8.out, HB7.out.below bq, HP7.out.below bq, HT7.out.below bq, HQ7.out.below bq, HBL7.out.trans (bq.mono (by omega))⟩
      case round =>
        clear HS8 bq HNE8 HB7 HP7 HT7 HQ7 HBL7 HSR sz7 hml hlen1 hlen2 hlt hlt' hm1 hm2
        obtain ⟨S, i, len, k, L, A, V, sv, mo, d, v, rfl, rfl, hSQ, hmo, HSR, HS, HNE, HB, HP, HT, HQ, HBL⟩ := hrel
        have hlen2 : len ≤ 122061 := by rw [← HSR.out.cnt]; exact cnt_le _ _
        have HTK : Hid (cellI wr ⟨T0 + 1 + 1, 1, none⟩ = k) := HQ.out.taken
        rcases hmo with ⟨rfl, rfl, hi, hA, hV⟩ | ⟨rfl, rfl, hi⟩
        · obtain ⟨⟨D0, D1⟩, V0, V1⟩ := HSR.out.box i hi
          rw [hA] at D0 D1
          rw [hV] at V0 V1
          have hSl := HS.out.lt
          obtain ⟨r0, r1⟩ := HS.out.cells
          have hlow := HSR.out.low (stn d v)
          have htop := HSR.out.top (stn d v)
          go_wp2_with fail
          refine (of_any wr (T0 + 1) L d v HT.out D0 (by omega) V0 V1).mono ?_
          rintro e w8 ⟨rfl, hb8⟩
          have HS8 : Hid (StAt w8 S d v) := HS.out.below hb8
          have HB8 : Hid (TripAt w8 T0 g n acc short) := HB.out.below hb8
          have HP8 : Hid (P.Spots w8 g n x) := HP.out.below hb8
          have HT8 : Hid (Tab w8 (T0 + 1) L) := HT.out.below hb8
          have HQ8 : Hid (QAt w8 (T0 + 1 + 1) sv len (i + 1) A V) := HQ.out.below hb8
          have HBL8 : Hid (Below w.heap.size w w8) := HBL.out.trans (hb8.mono HBL.out.size)
          have HQE : Hid ((fun j => stn (A j) (V j)) i = stn d v) := by show stn (A i) (V i) = _; rw [hA, hV]
          clear hb8 HS HB HP HT HQ HBL r0 r1
          by_cases hle : L (stn d v) + 1 ≤ 2000
          · obtain ⟨p0, p1, p2⟩ := HB8.out.cells
            obtain ⟨r0, r1⟩ := HS8.out.cells
            go_wp2_with fail
            refine (goBack_any P w8 g n (T0 + 1) (T0 + 1 + 1) S acc x short d v d v L A V sv len i HF.out hN hn a0 a1 HP8.out (by omega) (by omega) hSQ HT8.out HQ8.out HS8.out HNE.out HSR.out hi hA hV (by omega)).mono ?_
            rintro e w9 ⟨rfl, L', A', V', sv', len', ht9, hq9, hs9, hne9, hsr9, hb9⟩
            have HT9 : Hid (Tab w9 (T0 + 1) L') := ht9
            have HQ9 : Hid (QAt w9 (T0 + 1 + 1) sv' len' (i + 1) A' V') := hq9
            have HSR9 : Hid (P.Srch acc x short n L' A' V' len' (i + 1)) := hsr9
            have HB9 : Hid (TripAt w9 T0 g n acc short) := World.rowIs.of_block HB8.out (hb9.block T0 (by omega))
            have HP9 : Hid (P.Spots w9 g n x) := World.rowIs.of_block HP8.out (hb9.block g (by omega))
            have HBL9 : Hid (Below w.heap.size w w9) := HBL8.out.trans (hb9.mono (by omega))
            have hl9 := hq9.1.lt
            have hile := hsr9.bfs.le
            obtain ⟨q0, q1⟩ := hs9.cells
            have hS9l := hs9.lt
            clear ht9 hq9 hsr9 hb9 hs9 hne9 p0 p1 p2 r0 r1 HT8 HQ8 HB8 HP8 HBL8 HS8 HSR HNE HQE
            go_wp2_with fail
            obtain ⟨S', hS'⟩ : ∃ S', w9.heap.size = S' := ⟨_, rfl⟩
            obtain ⟨wA, hwA⟩ : ∃ wA, w9.alloc (.cells #[.int .i64 d, .int .i64 v] 110) = wA := ⟨_, rfl⟩
            have bA : Below w9.heap.size w9 wA := by rw [← hwA]; exact (Below.refl _ _).alloc (Nat.le_refl _) _
            have HSA : Hid (StAt wA S' d v) := by show StAt _ _ _ _; rw [← hwA, ← hS']; exact StAt.new w9 d v
            have HTA : Hid (Tab wA (T0 + 1) L') := HT9.out.below bA
            have HQA : Hid (QAt wA (T0 + 1 + 1) sv' len' (i + 1) A' V') := HQ9.out.below bA
            have HBA : Hid (TripAt wA T0 g n acc short) := HB9.out.below bA
            have HPA : Hid (P.Spots wA g n x) := HP9.out.below bA
            have HBLA : Hid (Below w.heap.size w wA) := HBL9.out.trans (bA.mono HBL9.out.size)
            have HNEA : Hid (sv'.ownBlock ≠ some S') := fun e => by have := (HQ9.out.own _ e).2; omega
            have hlen3 : len' ≤ 122061 := by rw [← HSR9.out.cnt]; exact cnt_le _ _
            rw [hwA, hS']
            clear hwA bA HT9 HQ9 HB9 HP9 HBL9 q0 q1 hS9l
            by_cases hmore : i + 1 < len'
            · refine (take_some wA (T0 + 1 + 1) sv' len' (i + 1) A' V' HQA.out hmore (by omega)).mono ?_
              unfold stV
              rintro e wB ⟨rfl, hqB, hhB⟩
              have hown := HQA.out.own
              have HTB : Hid (Tab wB (T0 + 1) L') := hhB.row HTA.out (by omega) (fun e => by have := hown _ e; omega)
              have HBB : Hid (TripAt wB T0 g n acc short) := hhB.row HBA.out (by omega) (fun e => by have := hown _ e; omega)
              have HPB : Hid (P.Spots wB g n x) := hhB.row HPA.out (by omega) (fun e => by have := hown _ e; omega)
              have HSB : Hid (StAt wB S' d v) := hhB.row HSA.out (by omega) HNEA.out
              have HBLB : Hid (Below w.heap.size w wB) := HBLA.out.trans (hhB.below (by omega) (by have := HTA.out.lt; omega) (fun k e => (hown _ e).1))
              have HQB : Hid (QAt wB (T0 + 1 + 1) sv' len' (i + 1 + 1) A' V') := hqB
              clear hqB hhB HTA HBA HPA HSA HBLA HQA
              obtain ⟨q0, q1⟩ := HSB.out.cells
              have qf := HSB.out.frozen
              have HTK2 : Hid (cellI ((wB.setCell ⟨S', 0, none⟩ (.int .i64 (A' (i + 1)))).setCell ⟨S', 1, none⟩ (.int .i64 (V' (i + 1)))) ⟨T0 + 1 + 1, 1, none⟩ = ((i + 1 + 1 : Nat) : Int)) := QAt.taken (sv := sv') (len := len') (A := A') (V := V') ⟨World.rowIs.setOther (World.rowIs.setOther HQB.out.1 (by simp; omega) _) (by simp; omega) _, own_two HQB.out.2 (fun e => HNEA.out e) _ _⟩
              go_wp2
              go_roundw
              case rel =>
                refine ⟨S', i + 1, len', i + 1 + 1, L', A', V', sv', true, A' (i + 1), V' (i + 1), rfl, rfl, by omega, Or.inl ⟨rfl, rfl, hmore, rfl, rfl⟩, HSR9.out, HSB.out.set _ _, HNEA.out, ?_, ?_, ?_, ⟨?_, ?_⟩, ?_⟩
                · exact World.rowIs.setOther (World.rowIs.setOther HBB.out (by simp; omega) _) (by simp; omega) _
                · exact World.rowIs.setOther (World.rowIs.setOther HPB.out (by simp; omega) _) (by simp; omega) _
                · exact World.rowIs.setOther (World.rowIs.setOther HTB.out (by simp; omega) _) (by simp; omega) _
                · exact World.rowIs.setOther (World.rowIs.setOther HQB.out.1 (by simp; omega) _) (by simp; omega) _
                · exact own_two HQB.out.2 (fun e => HNEA.out e) _ _
                · exact (HBLB.out.setCell (by simp; omega) _).setCell (by simp; omega) _
              case measure => rw [HTK.out, HTK2.out]; simp [boolN]; omega
            · have ei : i + 1 = len' := by omega
              have HQA' : Hid (QAt wA (T0 + 1 + 1) sv' len' len' A' V') := by have := HQA.out; rw [ei] at this; exact this
              refine (take_none wA (T0 + 1 + 1) sv' len' A' V' HQA'.out (by omega)).mono ?_
              unfold stV
              rintro e wB ⟨rfl, hbB⟩
              have HTB : Hid (Tab wB (T0 + 1) L') := HTA.out.below hbB
              have HBB : Hid (TripAt wB T0 g n acc short) := HBA.out.below hbB
              have HPB : Hid (P.Spots wB g n x) := HPA.out.below hbB
              have HSB : Hid (StAt wB S' d v) := HSA.out.below hbB
              have HBLB : Hid (Below w.heap.size w wB) := HBLA.out.trans (hbB.mono HBLA.out.size)
              have HQB : Hid (QAt wB (T0 + 1 + 1) sv' len' len' A' V') := HQA'.out.below hbB
              have HSR9' : Hid (P.Srch acc x short n L' A' V' len' len') := by have := HSR9.out; rw [ei] at this; exact this
              clear hbB HTA HBA HPA HSA HBLA HQA HQA'
              obtain ⟨q0, q1⟩ := HSB.out.cells
              have qf := HSB.out.frozen
              have HTK2 : Hid (cellI ((wB.setCell ⟨S', 0, none⟩ (.int .i64 0)).setCell ⟨S', 1, none⟩ (.int .i64 0)) ⟨T0 + 1 + 1, 1, none⟩ = (len' : Int)) := QAt.taken (sv := sv') (len := len') (A := A') (V := V') ⟨World.rowIs.setOther (World.rowIs.setOther HQB.out.1 (by simp; omega) _) (by simp; omega) _, own_two HQB.out.2 (fun e => HNEA.out e) _ _⟩
              go_wp2
              go_roundw
              case rel =>
                refine ⟨S', len', len', len', L', A', V', sv', false, 0, 0, rfl, rfl, by omega, Or.inr ⟨rfl, rfl, rfl⟩, HSR9'.out, HSB.out.set _ _, HNEA.out, ?_, ?_, ?_, ⟨?_, ?_⟩, ?_⟩
                · exact World.rowIs.setOther (World.rowIs.setOther HBB.out (by simp; omega) _) (by simp; omega) _
                · exact World.rowIs.setOther (World.rowIs.setOther HPB.out (by simp; omega) _) (by simp; omega) _
                · exact World.rowIs.setOther (World.rowIs.setOther HTB.out (by simp; omega) _) (by simp; omega) _
                · exact World.rowIs.setOther (World.rowIs.setOther HQB.out.1 (by simp; omega) _) (by simp; omega) _
                · exact own_two HQB.out.2 (fun e => HNEA.out e) _ _
                · exact (HBLB.out.setCell (by simp; omega) _).setCell (by simp; omega) _
              case measure => rw [HTK.out, HTK2.out]; simp [boolN]; omega
          · have hle' : decide (L (stn d v) + 1 ≤ 2000) = false := by simpa using hle
            have HSM : Hid (SameTo 2000 L (Fw.few P acc x short)) := HSR.out.bfs.sameTo (Or.inr ⟨hi, by rw [hA, hV]; omega⟩) (Fw.is P acc x short)
            go_wp2
            refine bodyPost_ret (v := .pointer (some ⟨T0 + 1, 0, none⟩)) (by simp [results, Try.results79, go_sem, *]) rfl ⟨T0 + 1, L, rfl, HT8.out, ⟨HSM.out, HSR.out.top, HSR.out.low⟩, by omega, HBL8.out⟩
        · have HSM : Hid (SameTo 2000 L (Fw.few P acc x short)) := HSR.out.bfs.sameTo (Or.inl hi) (Fw.is P acc x short)
          go_wp2
          refine bodyPost_ret (v := .pointer (some ⟨T0 + 1, 0, none⟩)) (by simp [results, Try.results79, go_sem, *]) rfl ⟨T0 + 1, L, rfl, HT.out, ⟨HSM.out, HSR.out.top, HSR.out.low⟩, by omega, HBL.out⟩

end Go.Proofs.Yteodefmpkljedaa
