/-
  The walk of the drawn profile.
-/
import Derived.Test.YteodefmpkljedaaDoorDrawProf
import Derived.Deep.RegionLaw
import Derived.Deep.RegionHeld3
import Derived.Shelf.Abstract
import Derived.RangeFuncNested
namespace Go.Proofs.YteodefmpkljedaaDoor
open Go.RowKit
set_option linter.unusedVariables false
set_option linter.unusedSimpArgs false

/-- What holds while a profile is drawn: the result's block, the variable's block, the two rows, the cursor. -/
def PS (w x : World) (B : Nat) (a : Option Addr) (cap : Nat) (C : Txt) (v u : Value) (n k : Nat) (ps zs : List Value) (cur : Cur) : Prop :=
  x.rowIs w.heap.size 26 5 (p5 nilS nilS 0 0 0) ∧ x.rowIs (w.heap.size + 1) 26 5 (p5 v u 0 0 0) ∧ x.ownsRow (w.heap.size + 2) 46 2 v n ps ∧ x.ownsRow (w.heap.size + 2) 49 3 u k zs ∧ Reads x B a cap C cur ∧ w.grownBy x (some B)
theorem PS.step {w x y : World} {B : Nat} {a : Option Addr} {cap : Nat} {C : Txt} {v u : Value} {n k : Nat} {ps zs : List Value} {cur cur' : Cur} (h : PS w x B a cap C v u n k ps zs cur) (hB : B < w.heap.size) (hg : x.grownBy y (some B)) (hr : Reads y B a cap C cur') : PS w y B a cap C v u n k ps zs cur' := by
  obtain ⟨o1, o2, o3, o4, o5, o6⟩ := h
  exact ⟨rowIs_grown o1 hg (by simp; omega), rowIs_grown o2 hg (by simp; omega), owned_grown o3 hg (fun j e he => by have := ownsRow_block o3 j he; cases e; omega), owned_grown o4 hg (fun j e he => by have := ownsRow_block o4 j he; cases e; omega), hr, grown_tr o6 hg⟩
theorem PS.free {w x y : World} {B : Nat} {a : Option Addr} {cap : Nat} {C : Txt} {v u : Value} {n k : Nat} {ps zs : List Value} {cur : Cur} (h : PS w x B a cap C v u n k ps zs cur) (hg : x.grownBy y none) : PS w y B a cap C v u n k ps zs cur := by
  obtain ⟨o1, o2, o3, o4, o5, o6⟩ := h
  exact ⟨rowIs_grown o1 hg (by simp), rowIs_grown o2 hg (by simp), owned_grown o3 hg (fun j e he => by cases e), owned_grown o4 hg (fun j e he => by cases e), o5.grown hg (fun j e => by cases e), grown_new o6 hg (fun j e => by cases e)⟩
/-- A zone has been appended (its row apart from the pieces'). -/
theorem PS.zone {w x y : World} {B : Nat} {a : Option Addr} {cap : Nat} {C : Txt} {v u u' : Value} {n k : Nat} {ps zs zs' : List Value} {cur : Cur} (h : PS w x B a cap C v u n k ps zs cur) (hB : B < w.heap.size) (hg : x.grownBy y u.ownBlock) (hown : y.ownsRow (w.heap.size + 2) 49 3 u' (k + 1) zs') : y.rowIs w.heap.size 26 5 (p5 nilS nilS 0 0 0) ∧ y.rowIs (w.heap.size + 1) 26 5 (p5 v u 0 0 0) ∧ PS w (y.setCell ⟨w.heap.size + 1, 1, none⟩ u') B a cap C v u' n (k + 1) ps zs' cur := by
  obtain ⟨o1, o2, o3, o4, o5, o6⟩ := h
  have hob := ownsRow_block o4
  have hne : ∀ j, u.ownBlock = some j → v.ownBlock ≠ some j := by
    intro j hj hv
    rcases o3.2 with ⟨rfl, _⟩ | ⟨g, cp, cur, rfl, h3, h4, _⟩
    · cases hv
    · rcases o4.2 with ⟨rfl, _⟩ | ⟨g', cp', cur', rfl, h3', h4', _⟩
      · cases hj
      · simp [Value.ownBlock] at hv hj
        subst hv hj
        rw [h4] at h4'
        simp at h4'
  have p1 : y.rowIs w.heap.size 26 5 (p5 nilS nilS 0 0 0) := rowIs_grown o1 hg (fun e => by have := hob _ e.symm; omega)
  have p2 : y.rowIs (w.heap.size + 1) 26 5 (p5 v u 0 0 0) := rowIs_grown o2 hg (fun e => by have := hob _ e.symm; omega)
  have p3 := owned_grown o3 hg (fun j e he => hne j e he)
  have p5' := o5.grown hg (fun j e => by have := hob _ e; omega)
  have p6 := grown_new o6 hg (fun j e => by have := hob _ e; omega)
  have gs := grown_set y (w.heap.size + 1) 1 u'
  refine ⟨p1, p2, p1.setOther (by simp) _, ?_, owned_grown p3 gs (fun j e he => by have h1 := ownsRow_block p3 j he; have h2 := Option.some.inj e; omega), owned_grown hown gs (fun j e he => by have h1 := ownsRow_block hown j he; have h2 := Option.some.inj e; omega), p5'.grown gs (fun j e => by have h2 := Option.some.inj e; omega), grown_new p6 gs (fun j e => by have h2 := Option.some.inj e; omega)⟩
  refine (p2.set 1 _).congr fun i hi => ?_
  match i, hi with
  | 0, _ => rfl
  | 1, _ => rfl
  | 2, _ => rfl
  | 3, _ => rfl
  | 4, _ => rfl

/-- The same, the other fields at hand. -/
def PT (w x : World) (B : Nat) (a : Option Addr) (cap : Nat) (C : Txt) (v u : Value) (n k : Nat) (ps zs : List Value) (t e d : Int) (cur : Cur) : Prop :=
  x.rowIs w.heap.size 26 5 (p5 nilS nilS 0 0 0) ∧ x.rowIs (w.heap.size + 1) 26 5 (p5 v u t e d) ∧ x.ownsRow (w.heap.size + 2) 46 2 v n ps ∧ x.ownsRow (w.heap.size + 2) 49 3 u k zs ∧ Reads x B a cap C cur ∧ w.grownBy x (some B)
theorem PT.step {w x y : World} {B : Nat} {a : Option Addr} {cap : Nat} {C : Txt} {v u : Value} {n k : Nat} {ps zs : List Value} {t e d : Int} {cur cur' : Cur} (h : PT w x B a cap C v u n k ps zs t e d cur) (hB : B < w.heap.size) (hg : x.grownBy y (some B)) (hr : Reads y B a cap C cur') : PT w y B a cap C v u n k ps zs t e d cur' := by
  obtain ⟨o1, o2, o3, o4, o5, o6⟩ := h
  exact ⟨rowIs_grown o1 hg (by simp; omega), rowIs_grown o2 hg (by simp; omega), owned_grown o3 hg (fun j e he => by have := ownsRow_block o3 j he; cases e; omega), owned_grown o4 hg (fun j e he => by have := ownsRow_block o4 j he; cases e; omega), hr, grown_tr o6 hg⟩
theorem PT.set {w x : World} {B : Nat} {a : Option Addr} {cap : Nat} {C : Txt} {v u : Value} {n k : Nat} {ps zs : List Value} {t e d t' e' d' : Int} {cur : Cur} (h : PT w x B a cap C v u n k ps zs t e d cur) (hB : B < w.heap.size) (i : Nat) (y : Int) (hp : ∀ j, j < 5 → (if j = i then Value.int .i64 y else p5 v u t e d j) = p5 v u t' e' d' j) : PT w (x.setCell ⟨w.heap.size + 1, i, none⟩ (.int .i64 y)) B a cap C v u n k ps zs t' e' d' cur := by
  obtain ⟨o1, o2, o3, o4, o5, o6⟩ := h
  have gs := grown_set x (w.heap.size + 1) i (.int .i64 y)
  exact ⟨o1.setOther (by simp) _, (o2.set i _).congr fun j hj => hp j hj, owned_grown o3 gs (fun j e he => by have h1 := ownsRow_block o3 j he; have h2 := Option.some.inj e; omega), owned_grown o4 gs (fun j e he => by have h1 := ownsRow_block o4 j he; have h2 := Option.some.inj e; omega), o5.grown gs (fun j e => by have h2 := Option.some.inj e; omega), grown_new o6 gs (fun j e => by have h2 := Option.some.inj e; omega)⟩
set_option maxRecDepth 20000 in
set_option maxHeartbeats 8000000 in
theorem profile_any (C : Txt) (hC : C.Ok) (a : Option Addr) (cap B : Nat) (c : Cur) (s : Int) (w : World) (hr : Reads w B a cap C c) (p0 : 0 ≤ c.pos) (p1 : c.pos ≤ 1000000) (hs : 1 ≤ s) (hs' : s ≤ 100) :
    Calls Tryd.prog 11 #[.pointer (some ⟨B, 0, none⟩), .int .i64 s] w fun e w' => ∃ v1 v2, e = .returned (.agg #[v1, v2, .int .i64 (C.prof s c).train, .int .i64 (C.prof s c).fin, .int .i64 (C.prof s c).delay]) ∧ w'.ownsRow w.heap.size 46 2 v1 (C.np c) (pairs (C.prof s c).L (C.prof s c).B (C.np c)) ∧ w'.ownsRow w.heap.size 49 3 v2 (C.nz c) (triples (C.prof s c).F (C.prof s c).T (C.prof s c).S (C.nz c)) ∧ Reads w' B a cap C (C.c7 c) ∧ w.grownBy w' (some B) := by
  have HR : Hid (Reads w B a cap C c) := hr
  have HC : Hid C.Ok := hC
  have hBl := hr.lt
  obtain ⟨i0, hi, hz0, hz1, hz2⟩ := info_parts Tryd.infoPieceD
  obtain ⟨j0, hj, jz0, jz1, jz2⟩ := info_parts Tryd.infoZoneD
  obtain ⟨n1, n2, n3⟩ := Txt.np_bounds hC p0
  obtain ⟨m1, m2⟩ := C.c0_pos c
  clear hr hC
  go_enter Tryd.func11, Tryd.ntmps11
  go_wp2_with fail
  generalize hW : (w.alloc _).alloc _ = W
  have gW : w.grownBy W (some B) := by rw [← hW]; exact grown_tr (World.grownBy_alloc _ _ _) (World.grownBy_alloc _ _ _)
  have sW : W.heap.size = w.heap.size + 2 := by rw [← hW]; simp
  have rR : W.rowIs w.heap.size 26 5 (p5 nilS nilS 0 0 0) := by
    have := (World.rowIs_alloc w #[nilS, nilS, .int .i64 0, .int .i64 0, .int .i64 0] 26 (p5 nilS nilS 0 0 0) (fun i hi => by simp at hi; match i, hi with | 0, _ => rfl | 1, _ => rfl | 2, _ => rfl | 3, _ => rfl | 4, _ => rfl)).alloc (.cells #[nilS, nilS, .int .i64 0, .int .i64 0, .int .i64 0] 26)
    rw [← hW]; exact this
  have rP : W.rowIs (w.heap.size + 1) 26 5 (p5 nilS nilS 0 0 0) := by
    have := World.rowIs_alloc (w.alloc (.cells #[nilS, nilS, .int .i64 0, .int .i64 0, .int .i64 0] 26)) #[nilS, nilS, .int .i64 0, .int .i64 0, .int .i64 0] 26 (p5 nilS nilS 0 0 0) (fun i hi => by simp at hi; match i, hi with | 0, _ => rfl | 1, _ => rfl | 2, _ => rfl | 3, _ => rfl | 4, _ => rfl)
    rw [World.size_alloc] at this
    rw [← hW]; exact this
  have hRW : Reads W B a cap C c := by rw [← hW]; exact (HR.out.grown (World.grownBy_alloc _ _ none) (fun k e => by cases e)).grown (World.grownBy_alloc _ _ none) (fun k e => by cases e)
  clear hW
  refine (pick_any C HC.out a cap B c 5 _ hRW p0 (by omega)).mono ?_
  rintro e w1 ⟨rfl, hr1, hg1⟩
  have G1 := grown_tr gW hg1
  replace rR := rowIs_grown rR hg1 (by simp; omega)
  replace rP := rowIs_grown rP hg1 (by simp; omega)
  have s1 := hg1.size
  have hp5 := Txt.pickVal_bounds HC.out p0 (n := 5) (by omega)
  have H1 : Hid (w1.rowIs w.heap.size 26 5 (p5 nilS nilS 0 0 0) ∧ w1.rowIs (w.heap.size + 1) 26 5 (p5 nilS nilS 0 0 0) ∧ Reads w1 B a cap C (C.c0 c) ∧ w.grownBy w1 (some B)) := ⟨rR, rP, hr1, G1⟩
  clear gW hRW hg1 rR rP hr1 G1
  go_wp2
  go_loopw [6, 7] (fun s6 s7 wr => ∃ (k : Nat) (v : Value), k ≤ C.np c ∧ s6 = .int .i64 (sumTo (C.plen s (C.c0 c)) k) ∧ s7 = .int .i64 (1 + C.pickVal c 5 - k) ∧ w.heap.size + 2 ≤ wr.heap.size ∧ Hid (wr.rowIs w.heap.size 26 5 (p5 nilS nilS 0 0 0) ∧ wr.rowIs (w.heap.size + 1) 26 5 (p5 v nilS 0 0 0) ∧ wr.ownsRow (w.heap.size + 2) 46 2 v k (pairs (C.plen s (C.c0 c)) (C.pbrake (C.c0 c)) k) ∧ Reads wr B a cap C (C.pcur (C.c0 c) k) ∧ w.grownBy wr (some B))) (fun _ s7 _ => (intOf s7).toNat)
  case atStart => exact ⟨0, nilS, by omega, rfl, by simp, by omega, H1.out.1, H1.out.2.1, World.ownsRow_nil _ _ _ _, H1.out.2.2.1, H1.out.2.2.2⟩
  case round =>
    clear H1
    obtain ⟨k, v, hk, rfl, rfl, hsz, HH⟩ := hrel
    obtain ⟨sb0, sb1⟩ := sumTo_in (m := 8000) (fun j => by have := C.plen_bounds hs (C.c0 c) j; omega : ∀ j, 1 ≤ C.plen s (C.c0 c) j ∧ C.plen s (C.c0 c) j ≤ 8000) k
    obtain ⟨q0, q1⟩ := C.pcur_pos (C.c0 c) k
    by_cases hlt : k < C.np c
    · obtain ⟨lb0, lb1⟩ := C.plen_bounds hs (C.c0 c) k
      obtain ⟨bb0, bb1⟩ := Txt.pbrake_bounds HC.out (c := C.c0 c) (by omega) k
      have HLk : Hid (C.plen s (C.c0 c) k = 1 + C.wideVal (C.pcur (C.c0 c) k) (80 * s)) := rfl
      have HBk : Hid (C.pbrake (C.c0 c) k = 10 + C.pickVal (C.wideCur (C.pcur (C.c0 c) k)) 20) := rfl
      have hwp := C.wideCur_pos (C.pcur (C.c0 c) k)
      go_wp2_with fail
      refine (wide_any C HC.out a cap B _ (80 * s) _ HH.out.2.2.2.1 (by omega) (by omega) (by omega)).mono ?_
      rintro e w2 ⟨rfl, hr2, hg2⟩
      have s2 := hg2.size
      have H2 : Hid (w2.rowIs w.heap.size 26 5 (p5 nilS nilS 0 0 0) ∧ w2.rowIs (w.heap.size + 1) 26 5 (p5 v nilS 0 0 0) ∧ w2.ownsRow (w.heap.size + 2) 46 2 v k (pairs (C.plen s (C.c0 c)) (C.pbrake (C.c0 c)) k) ∧ w.grownBy w2 (some B) ∧ Reads w2 B a cap C (C.wideCur (C.pcur (C.c0 c) k))) := by
        obtain ⟨o1, o2, o3, o4, o5⟩ := HH.out
        exact ⟨rowIs_grown o1 hg2 (by simp; omega), rowIs_grown o2 hg2 (by simp; omega), owned_grown o3 hg2 (fun j e he => by have := ownsRow_block o3 j he; cases e; omega), grown_tr o5 hg2, hr2⟩
      clear HH hg2 hr2 lb0 lb1 bb0 bb1
      have hwv := Txt.wideVal_bounds (C := C) (c := C.pcur (C.c0 c) k) (n := 80 * s) (by omega)
      generalize C.wideVal (C.pcur (C.c0 c) k) (80 * s) = wv at *
      obtain ⟨wv0, wv1⟩ := hwv
      go_wp2_with fail
      refine (steep_any C HC.out a cap B _ _ H2.out.2.2.2.2 (by omega) (by omega)).mono ?_
      rintro e w3 ⟨rfl, hr3, hg3⟩
      have s3 := hg3.size
      have H3 : Hid (w3.rowIs w.heap.size 26 5 (p5 nilS nilS 0 0 0) ∧ w3.rowIs (w.heap.size + 1) 26 5 (p5 v nilS 0 0 0) ∧ w3.ownsRow (w.heap.size + 2) 46 2 v k (pairs (C.plen s (C.c0 c)) (C.pbrake (C.c0 c)) k) ∧ w.grownBy w3 (some B) ∧ Reads w3 B a cap C (C.pcur (C.c0 c) (k + 1))) := by
        obtain ⟨o1, o2, o3, o4, o5⟩ := H2.out
        exact ⟨rowIs_grown o1 hg3 (by simp; omega), rowIs_grown o2 hg3 (by simp; omega), owned_grown o3 hg3 (fun j e he => by have := ownsRow_block o3 j he; cases e; omega), grown_tr o4 hg3, hr3⟩
      clear H2 hg3 hr3
      have hpv := Txt.pickVal_bounds HC.out (c := C.wideCur (C.pcur (C.c0 c) k)) (by omega) (n := 20) (by omega)
      generalize C.pickVal (C.wideCur (C.pcur (C.c0 c) k)) 20 = pv at *
      obtain ⟨pv0, pv1⟩ := hpv
      have l3 : w.heap.size + 1 < w3.heap.size := by omega
      clear hwp
      obtain ⟨av, cv, rfl, _, _, _⟩ := owned_shape H3.out.2.2.1
      have x0 : w3.cell? ⟨w.heap.size + 1, 0, none⟩ = some (.slice av k cv) := H3.out.2.1.cell (i := 0) (by omega)
      have xf := H3.out.2.1.frozen 0
      have HO3 : Hid (w3.ownsRow (w.heap.size + 2) 46 2 (.slice av k cv) k (pairs (C.plen s (C.c0 c)) (C.pbrake (C.c0 c)) k)) := H3.out.2.2.1
      go_wp2_with (first | (at_builtin; refine wpList_append_own _ rfl _ _ 23 rfl (w.heap.size + 2) 46 i0 (.agg #[.int .i64 0, .int .i64 0]) 2 16 Tryd.underlying23 hi hz0 hz1 hz2 rfl (by decide) _ _ _ rfl ((HO3.out.alloc _).alloc _) ⟨w3.heap.size + 1, 0, none⟩ 1 1 [.int .i64 (1 + wv), .int .i64 (10 + pv)] rfl rfl ?c1 ?c2 ?c3 ?c4 ?c5 ?_))
      case c1 =>
        intro j u hj
        match j, hj with
        | 0, hj => simp at hj; subst hj; simp [Addr.add]
        | 1, hj => simp at hj; subst hj; simp [Addr.add]
      case c2 => intro u hu; simp at hu; rcases hu with rfl | rfl <;> rfl
      case c3 => unfold maxLen; omega
      case c4 => omega
      case c5 => simp; omega
      intro v4 w4 hown4 hgrow4 _
      have hob := ownsRow_block HO3.out
      have hol := ownBlock_lt HO3.out
      have H4 : Hid (w4.rowIs w.heap.size 26 5 (p5 nilS nilS 0 0 0) ∧ w4.rowIs (w.heap.size + 1) 26 5 (p5 (.slice av k cv) nilS 0 0 0) ∧ w4.ownsRow (w.heap.size + 2) 46 2 v4 (k + 1) (pairs (C.plen s (C.c0 c)) (C.pbrake (C.c0 c)) (k + 1)) ∧ w.grownBy w4 (some B) ∧ Reads w4 B a cap C (C.pcur (C.c0 c) (k + 1))) := by
        obtain ⟨o1, o2, o3, o4, o5⟩ := H3.out
        refine ⟨rowIs_grown ((o1.alloc _).alloc _) hgrow4 (fun e => by have := hob _ e.symm; omega), rowIs_grown ((o2.alloc _).alloc _) hgrow4 (fun e => by have := hob _ e.symm; omega), ?_, grown_new (grown_tr (grown_tr o4 (World.grownBy_alloc _ _ _)) (World.grownBy_alloc _ _ _)) hgrow4 (fun j e => by have := hob _ e; omega), ((o5.grown (World.grownBy_alloc _ _ none) (fun j e => by cases e)).grown (World.grownBy_alloc _ _ none) (fun j e => by cases e)).grown hgrow4 (fun j e => by have := hob _ e; omega)⟩
        rw [pairs, HLk.out, HBk.out]; exact hown4
      have c4 : w4.cell? ⟨w3.heap.size, 0, none⟩ = some (.int .i64 (1 + wv)) := hgrow4.cell (by go_simp) (fun e => by have := hol _ e.symm; simp at this)
      have s4 := hgrow4.size
      simp at s4
      obtain ⟨bv, dv, rfl, _, _, _⟩ := owned_shape H4.out.2.2.1
      have y0 : w4.cell? ⟨w.heap.size + 1, 0, none⟩ = some (.slice av k cv) := H4.out.2.1.cell (i := 0) (by omega)
      have yf := H4.out.2.1.frozen 0
      have l4 : w.heap.size + 1 < w4.heap.size := by omega
      have hne4 : ¬ (w3.heap.size = w.heap.size + 1) := by omega
      clear H3 HO3 hown4 hgrow4 hob hol x0 xf
      go_wp2
      go_roundw
      case rel =>
        obtain ⟨o1, o2, o3, o4, o5⟩ := H4.out
        refine ⟨k + 1, .slice bv (k + 1) dv, by omega, by rw [sumTo, HLk.out], by go_num, by simp; omega, o1.setOther (by simp) _, ?_, ?_, o5.grown (grown_set _ _ _ _) (fun j e => by cases e; omega), grown_new o4 (grown_set _ _ _ _) (fun j e => by cases e; omega)⟩
        · refine (o2.set 0 _).congr fun i hi => ?_
          match i, hi with
          | 0, _ => rfl
          | 1, _ => rfl
          | 2, _ => rfl
          | 3, _ => rfl
          | 4, _ => rfl
        · exact owned_grown o3 (grown_set _ _ _ _) (fun j e he => by have := ownsRow_block o3 j he; cases e; omega)
      case measure => simp [intOf]; omega
    · have e : k = C.np c := by omega
      subst e
      have H5 : Hid (wr.rowIs w.heap.size 26 5 (p5 nilS nilS 0 0 0) ∧ wr.rowIs (w.heap.size + 1) 26 5 (p5 v nilS 0 0 0) ∧ wr.ownsRow (w.heap.size + 2) 46 2 v (C.np c) (pairs (C.plen s (C.c0 c)) (C.pbrake (C.c0 c)) (C.np c)) ∧ Reads wr B a cap C (C.c1 c) ∧ w.grownBy wr (some B)) := HH.out
      clear HH sb0 sb1 q0 q1
      obtain ⟨t1, t2⟩ := Txt.tot_bounds HC.out hs hs' p0
      rw [show sumTo (C.plen s (C.c0 c)) (C.np c) = C.tot s c from rfl]
      obtain ⟨z1, z2⟩ := Txt.nz_bounds HC.out p0
      obtain ⟨u1, u2⟩ := Txt.c1_pos HC.out p0
      go_wp2_with fail
      refine (pick_any C HC.out a cap B _ 5 _ H5.out.2.2.2.1 (by omega) (by omega)).mono ?_
      rintro e w6 ⟨rfl, hr6, hg6⟩
      have s6 := hg6.size
      have H6 : Hid (w6.rowIs w.heap.size 26 5 (p5 nilS nilS 0 0 0) ∧ w6.rowIs (w.heap.size + 1) 26 5 (p5 v nilS 0 0 0) ∧ w6.ownsRow (w.heap.size + 2) 46 2 v (C.np c) (pairs (C.plen s (C.c0 c)) (C.pbrake (C.c0 c)) (C.np c)) ∧ Reads w6 B a cap C (C.c2 c) ∧ w.grownBy w6 (some B)) := by
        obtain ⟨o1, o2, o3, o4, o5⟩ := H5.out
        exact ⟨rowIs_grown o1 hg6 (by simp; omega), rowIs_grown o2 hg6 (by simp; omega), owned_grown o3 hg6 (fun j e he => by have := ownsRow_block o3 j he; cases e; omega), hr6, grown_tr o5 hg6⟩
      clear H5 hg6 hr6
      obtain ⟨v1, v2⟩ := Txt.c2_pos HC.out p0
      have hnz := Txt.pickVal_bounds HC.out (c := C.c1 c) (by omega) (n := 5) (by omega)
      obtain ⟨hnz0, hnz1⟩ := hnz
      generalize hpz : C.pickVal (C.c1 c) 5 = pz at *
      go_wp2
      go_loopw [9] (fun s9 wr => ∃ (k : Nat) (u : Value), k ≤ C.nz c ∧ s9 = .int .i64 (pz - k) ∧ w.heap.size + 2 ≤ wr.heap.size ∧ Hid (wr.rowIs w.heap.size 26 5 (p5 nilS nilS 0 0 0) ∧ wr.rowIs (w.heap.size + 1) 26 5 (p5 v u 0 0 0) ∧ wr.ownsRow (w.heap.size + 2) 46 2 v (C.np c) (pairs (C.plen s (C.c0 c)) (C.pbrake (C.c0 c)) (C.np c)) ∧ wr.ownsRow (w.heap.size + 2) 49 3 u k (triples (C.zfrom (C.tot s c) (C.c2 c)) (C.zto (C.tot s c) (C.c2 c)) (C.zspeed s (C.c2 c)) k) ∧ Reads wr B a cap C (C.zcur (C.c2 c) k) ∧ w.grownBy wr (some B))) (fun s9 _ => (intOf s9).toNat)
      case atStart => exact ⟨0, nilS, by omega, by simp, by omega, H6.out.1, H6.out.2.1, H6.out.2.2.1, World.ownsRow_nil _ _ _ _, H6.out.2.2.2.1, H6.out.2.2.2.2⟩
      case round =>
        clear H6
        obtain ⟨k, u, hk, rfl, hszr, HH⟩ := hrel
        have q0 := C.zcur_pos (C.c2 c) k
        by_cases hlt : k < C.nz c
        · have HFk : Hid (C.zfrom (C.tot s c) (C.c2 c) k = C.wideVal (C.zcur (C.c2 c) k) (C.tot s c + 1)) := rfl
          have HTk : Hid (C.zto (C.tot s c) (C.c2 c) k = C.zfrom (C.tot s c) (C.c2 c) k + C.wideVal (C.wideCur (C.zcur (C.c2 c) k)) (C.tot s c - C.zfrom (C.tot s c) (C.c2 c) k + 1)) := rfl
          have HSk : Hid (C.zspeed s (C.c2 c) k = 1 + C.wideVal (C.wideCur (C.wideCur (C.zcur (C.c2 c) k))) (12 * s)) := rfl
          have q1 := C.wideCur_pos (C.zcur (C.c2 c) k)
          have q2 := C.wideCur_pos (C.wideCur (C.zcur (C.c2 c) k))
          go_wp2_with fail
          refine (wide_any C HC.out a cap B _ (C.tot s c + 1) _ HH.out.2.2.2.2.1 (by omega) (by omega) (by omega)).mono ?_
          rintro e w7 ⟨rfl, hr7, hg7⟩
          have s7 := hg7.size
          have H7 : Hid (w7.rowIs w.heap.size 26 5 (p5 nilS nilS 0 0 0) ∧ w7.rowIs (w.heap.size + 1) 26 5 (p5 v u 0 0 0) ∧ w7.ownsRow (w.heap.size + 2) 46 2 v (C.np c) (pairs (C.plen s (C.c0 c)) (C.pbrake (C.c0 c)) (C.np c)) ∧ w7.ownsRow (w.heap.size + 2) 49 3 u k (triples (C.zfrom (C.tot s c) (C.c2 c)) (C.zto (C.tot s c) (C.c2 c)) (C.zspeed s (C.c2 c)) k) ∧ Reads w7 B a cap C (C.wideCur (C.zcur (C.c2 c) k)) ∧ w.grownBy w7 (some B)) := by
            obtain ⟨o1, o2, o3, o4, o5, o6⟩ := HH.out
            exact ⟨rowIs_grown o1 hg7 (by simp; omega), rowIs_grown o2 hg7 (by simp; omega), owned_grown o3 hg7 (fun j e he => by have := ownsRow_block o3 j he; cases e; omega), owned_grown o4 hg7 (fun j e he => by have := ownsRow_block o4 j he; cases e; omega), hr7, grown_tr o6 hg7⟩
          clear HH hg7 hr7
          have hwv := Txt.wideVal_bounds (C := C) (c := C.zcur (C.c2 c) k) (n := C.tot s c + 1) (by omega)
          rw [← HFk.out] at hwv ⊢
          obtain ⟨fa0, fa1⟩ := hwv
          go_wp2_with fail
          refine (wide_any C HC.out a cap B _ (C.tot s c - C.zfrom (C.tot s c) (C.c2 c) k + 1) _ H7.out.2.2.2.2.1 (by omega) (by omega) (by omega)).mono ?_
          rintro e w8 ⟨rfl, hr8, hg8⟩
          have s8 := hg8.size
          have H8 : Hid (w8.rowIs w.heap.size 26 5 (p5 nilS nilS 0 0 0) ∧ w8.rowIs (w.heap.size + 1) 26 5 (p5 v u 0 0 0) ∧ w8.ownsRow (w.heap.size + 2) 46 2 v (C.np c) (pairs (C.plen s (C.c0 c)) (C.pbrake (C.c0 c)) (C.np c)) ∧ w8.ownsRow (w.heap.size + 2) 49 3 u k (triples (C.zfrom (C.tot s c) (C.c2 c)) (C.zto (C.tot s c) (C.c2 c)) (C.zspeed s (C.c2 c)) k) ∧ Reads w8 B a cap C (C.wideCur (C.wideCur (C.zcur (C.c2 c) k))) ∧ w.grownBy w8 (some B)) := by
            obtain ⟨o1, o2, o3, o4, o5, o6⟩ := H7.out
            exact ⟨rowIs_grown o1 hg8 (by simp; omega), rowIs_grown o2 hg8 (by simp; omega), owned_grown o3 hg8 (fun j e he => by have := ownsRow_block o3 j he; cases e; omega), owned_grown o4 hg8 (fun j e he => by have := ownsRow_block o4 j he; cases e; omega), hr8, grown_tr o6 hg8⟩
          clear H7 hg8 hr8
          have hwb := Txt.wideVal_bounds (C := C) (c := C.wideCur (C.zcur (C.c2 c) k)) (n := C.tot s c - C.zfrom (C.tot s c) (C.c2 c) k + 1) (by omega)
          generalize C.wideVal (C.wideCur (C.zcur (C.c2 c) k)) (C.tot s c - C.zfrom (C.tot s c) (C.c2 c) k + 1) = wb at *
          obtain ⟨wb0, wb1⟩ := hwb
          obtain ⟨au, cu, rfl, _, _, _⟩ := owned_shape H8.out.2.2.2.1
          have x1 : w8.cell? ⟨w.heap.size + 1, 1, none⟩ = some (.slice au k cu) := H8.out.2.1.cell (i := 1) (by omega)
          have xf := H8.out.2.1.frozen 1
          have hws := Txt.wideVal_bounds (C := C) (c := C.wideCur (C.wideCur (C.zcur (C.c2 c) k))) (n := 12 * s) (by omega)
          obtain ⟨ws0, ws1⟩ := hws
          have l8 : w.heap.size + 1 < w8.heap.size := by omega
          have cW : Hid (Calls Tryd.prog 13 #[.pointer (some ⟨B, 0, none⟩), .int .i64 (12 * s)] w8.drew fun e w' => e = .returned (.int .i64 (C.wideVal (C.wideCur (C.wideCur (C.zcur (C.c2 c) k))) (12 * s))) ∧ Reads w' B a cap C (C.zcur (C.c2 c) (k + 1)) ∧ w8.drew.grownBy w' (some B)) := wide_any C HC.out a cap B _ (12 * s) _ (H8.out.2.2.2.2.1.grown (grown_one w8 none) (fun j e => by cases e)) (by omega) (by omega) (by omega)
          generalize C.wideVal (C.wideCur (C.wideCur (C.zcur (C.c2 c) k))) (12 * s) = ws at *
          have eW : Hid (∀ args w, (callFunc 13 args).run Tryd.prog w = .ok (.enter 13 args) w) := enters_of Tryd.func13 (by kernel_rfl) rfl
          have hT : C.zto (C.tot s c) (C.c2 c) k = C.zfrom (C.tot s c) (C.c2 c) k + wb := HTk.out
          have HT2 : Hid (C.zto (C.tot s c) (C.c2 c) k = C.zfrom (C.tot s c) (C.c2 c) k + wb) := hT
          have HS2 : Hid (C.zspeed s (C.c2 c) k = 1 + ws) := HSk.out
          clear hT HTk HSk
          go_wp2_with fail
          go_region_law (first
            | (refine step_call2 rfl 13 (.tmp 59) (.tmp 61) _ rfl (.pointer (some ⟨B, 0, none⟩)) (.int .i64 (12 * s)) (by simp [Act.eval, Act.put]) (by first | (simp [Act.eval, Act.put]; done) | (simp [Act.eval, Act.put]; exact IntWalk.i64_in _ ⟨by omega, by omega⟩)) eW.out cW.out ?_; rintro e w9 ⟨rfl, hr9, hg9⟩; refine ⟨_, rfl, ?_⟩; have s9 : w8.heap.size ≤ w9.heap.size := hg9.size; have l9 : w.heap.size + 1 < w9.heap.size := (by omega); have y1 : w9.cell? ⟨w.heap.size + 1, 1, none⟩ = some (.slice au k cu) := hg9.cell (a := ⟨w.heap.size + 1, 1, none⟩) x1 (fun e => by have h2 : w.heap.size + 1 = B := Option.some.inj e; omega); have P9 : Hid (PS w w9 B a cap C v (.slice au k cu) (C.np c) k (pairs (C.plen s (C.c0 c)) (C.pbrake (C.c0 c)) (C.np c)) (triples (C.zfrom (C.tot s c) (C.c2 c)) (C.zto (C.tot s c) (C.c2 c)) (C.zspeed s (C.c2 c)) k) (C.zcur (C.c2 c) (k + 1))) := ((show PS w w8 B a cap C v (.slice au k cu) (C.np c) k _ _ _ from H8.out).free (grown_one w8 none)).step hBl hg9 hr9; have HO9 : Hid (w9.ownsRow (w.heap.size + 2) 49 3 (.slice au k cu) k (triples (C.zfrom (C.tot s c) (C.c2 c)) (C.zto (C.tot s c) (C.c2 c)) (C.zspeed s (C.c2 c)) k)) := owned_grown (w := w8.drew) H8.out.2.2.2.1 hg9 (fun j e he => by have := ownsRow_block H8.out.2.2.2.1 j he; cases e; omega))
            | (refine step_append_own rfl (.tmp 56) (.tmp 65) 24 rfl (w.heap.size + 2) 49 j0 (.agg #[.int .i64 0, .int .i64 0, .int .i64 0]) 3 24 Tryd.underlying24 hj jz0 jz1 jz2 rfl (by decide) (.slice au k cu) k _ (by simp [Act.eval, Act.put]) (HO9.out.alloc _) ⟨w9.heap.size, 0, none⟩ 1 1 [.int .i64 (C.zfrom (C.tot s c) (C.c2 c) k), .int .i64 (C.zfrom (C.tot s c) (C.c2 c) k + wb), .int .i64 (IntKind.i64.wrap (1 + ws))] (by simp [Act.eval, Act.put]) rfl (alloc_add3 _ _ _ _ _) (by simp [Value.oneCell']) (by unfold maxLen; omega) (by omega) (by simp; omega) ?_; intro v10 w10 hown10 hgrow10; rw [IntWalk.i64_in (1 + ws) ⟨by omega, by omega⟩] at hown10; obtain ⟨a10, c10, rfl, _, _, _⟩ := owned_shape hown10; have HP := ((P9.out.free (World.grownBy_alloc _ _ none)).zone hBl hgrow10 hown10); have z1 : w10.cell? ⟨w.heap.size + 1, 1, none⟩ = some (.slice au k cu) := HP.2.1.cell (i := 1) (by omega); have zf := HP.2.1.frozen 1; have H10 : Hid (PS w (w10.setCell ⟨w.heap.size + 1, 1, none⟩ (.slice a10 (k + 1) c10)) B a cap C v (.slice a10 (k + 1) c10) (C.np c) (k + 1) (pairs (C.plen s (C.c0 c)) (C.pbrake (C.c0 c)) (C.np c)) (triples (C.zfrom (C.tot s c) (C.c2 c)) (C.zto (C.tot s c) (C.c2 c)) (C.zspeed s (C.c2 c)) k ++ [.int .i64 (C.zfrom (C.tot s c) (C.c2 c) k), .int .i64 (C.zfrom (C.tot s c) (C.c2 c) k + wb), .int .i64 (1 + ws)]) (C.zcur (C.c2 c) (k + 1))) := HP.2.2; have s10 := hgrow10.size; clear HP hgrow10 hown10))
          all_goals
            go_wp2
            go_roundw
          all_goals first
            | (refine ⟨k + 1, .slice a10 (k + 1) c10, by omega, by go_num, by simp at s10 ⊢; omega, ?_⟩; have hh := H10.out; rw [show triples (C.zfrom (C.tot s c) (C.c2 c)) (C.zto (C.tot s c) (C.c2 c)) (C.zspeed s (C.c2 c)) k ++ [Value.int .i64 (C.zfrom (C.tot s c) (C.c2 c) k), .int .i64 (C.zfrom (C.tot s c) (C.c2 c) k + wb), .int .i64 (1 + ws)] = triples (C.zfrom (C.tot s c) (C.c2 c)) (C.zto (C.tot s c) (C.c2 c)) (C.zspeed s (C.c2 c)) (k + 1) from by rw [triples, HT2.out, HS2.out]] at hh; exact hh)
            | (simp [intOf]; omega)
        · have e : k = C.nz c := by omega
          subst e
          have H11 : Hid (PS w wr B a cap C v u (C.np c) (C.nz c) (pairs (C.plen s (C.c0 c)) (C.pbrake (C.c0 c)) (C.np c)) (triples (C.zfrom (C.tot s c) (C.c2 c)) (C.zto (C.tot s c) (C.c2 c)) (C.zspeed s (C.c2 c)) (C.nz c)) (C.c3 c)) := HH.out
          clear HH
          obtain ⟨e1, e2⟩ := Txt.c3_pos HC.out p0
          obtain ⟨e3, e4⟩ := Txt.c4_pos HC.out p0
          obtain ⟨e5, e6⟩ := Txt.c5_pos HC.out p0
          obtain ⟨e7, e8⟩ := Txt.c6_pos HC.out p0
          go_wp2_with fail
          refine (wide_any C HC.out a cap B _ (30 * s) _ H11.out.2.2.2.2.1 (by omega) (by omega) (by omega)).mono ?_
          rintro e w12 ⟨rfl, hr12, hg12⟩
          have s12 := hg12.size
          have H12 : Hid (PS w w12 B a cap C v u (C.np c) (C.nz c) (pairs (C.plen s (C.c0 c)) (C.pbrake (C.c0 c)) (C.np c)) (triples (C.zfrom (C.tot s c) (C.c2 c)) (C.zto (C.tot s c) (C.c2 c)) (C.zspeed s (C.c2 c)) (C.nz c)) (C.c4 c)) := H11.out.step hBl hg12 hr12
          clear H11 hr12 hg12
          obtain ⟨av, cv, rfl, _, _, _⟩ := owned_shape H12.out.2.2.1
          obtain ⟨au, cu, rfl, _, _, _⟩ := owned_shape H12.out.2.2.2.1
          have HT : Hid ((C.prof s c).train = C.wideVal (C.c3 c) (30 * s)) := rfl
          have HPT : Hid (PT w (w12.setCell ⟨w.heap.size + 1, 2, none⟩ (.int .i64 (C.wideVal (C.c3 c) (30 * s)))) B a cap C (.slice av (C.np c) cv) (.slice au (C.nz c) cu) (C.np c) (C.nz c) (pairs (C.plen s (C.c0 c)) (C.pbrake (C.c0 c)) (C.np c)) (triples (C.zfrom (C.tot s c) (C.c2 c)) (C.zto (C.tot s c) (C.c2 c)) (C.zspeed s (C.c2 c)) (C.nz c)) (C.wideVal (C.c3 c) (30 * s)) 0 0 (C.c4 c)) := PT.set (t := 0) (e := 0) (d := 0) H12.out hBl 2 _ (p5_cases rfl rfl rfl rfl rfl)
          have x2 : w12.cell? ⟨w.heap.size + 1, 2, none⟩ = some (.int .i64 0) := H12.out.2.1.cell (i := 2) (by omega)
          have xf := H12.out.2.1.frozen 2
          clear H12
          go_wp2_with fail
          refine (wide_any C HC.out a cap B _ (C.tot s c + 1) _ HPT.out.2.2.2.2.1 (by omega) (by omega) (by omega)).mono ?_
          rintro e w13 ⟨rfl, hr13, hg13⟩
          have H13 : Hid (PT w w13 B a cap C (.slice av (C.np c) cv) (.slice au (C.nz c) cu) (C.np c) (C.nz c) (pairs (C.plen s (C.c0 c)) (C.pbrake (C.c0 c)) (C.np c)) (triples (C.zfrom (C.tot s c) (C.c2 c)) (C.zto (C.tot s c) (C.c2 c)) (C.zspeed s (C.c2 c)) (C.nz c)) (C.wideVal (C.c3 c) (30 * s)) 0 0 (C.c5 c)) := HPT.out.step hBl hg13 hr13
          clear HPT hr13 hg13 x2 xf
          go_wp2_with fail
          refine (pick_any C HC.out a cap B _ 2 _ H13.out.2.2.2.2.1 (by omega) (by omega)).mono ?_
          rintro e w14 ⟨rfl, hr14, hg14⟩
          have H14 : Hid (PT w w14 B a cap C (.slice av (C.np c) cv) (.slice au (C.nz c) cu) (C.np c) (C.nz c) (pairs (C.plen s (C.c0 c)) (C.pbrake (C.c0 c)) (C.np c)) (triples (C.zfrom (C.tot s c) (C.c2 c)) (C.zto (C.tot s c) (C.c2 c)) (C.zspeed s (C.c2 c)) (C.nz c)) (C.wideVal (C.c3 c) (30 * s)) 0 0 (C.c6 c)) := H13.out.step hBl hg14 hr14
          clear H13 hr14 hg14
          have hx := Txt.wideVal_bounds (C := C) (c := C.c4 c) (n := C.tot s c + 1) (by omega)
          have hy := Txt.pickVal_bounds HC.out (c := C.c5 c) (by omega) (n := 2) (by omega)
          have HB0 : Hid (C.back s c = C.wideVal (C.c4 c) (C.tot s c + 1) * C.pickVal (C.c5 c) 2 / 2) := rfl
          obtain ⟨k0, k1⟩ := Txt.back_bounds HC.out hs hs' p0
          have hxy : 0 ≤ C.wideVal (C.c4 c) (C.tot s c + 1) * C.pickVal (C.c5 c) 2 ∧ C.wideVal (C.c4 c) (C.tot s c + 1) * C.pickVal (C.c5 c) 2 ≤ C.tot s c := by
            have h3 : C.pickVal (C.c5 c) 2 = 0 ∨ C.pickVal (C.c5 c) 2 = 1 := by omega
            rcases h3 with h3 | h3
            · rw [h3, Int.mul_zero]; omega
            · rw [h3, Int.mul_one]; omega
          have hq : (C.wideVal (C.c4 c) (C.tot s c + 1) * C.pickVal (C.c5 c) 2).tdiv 2 = C.wideVal (C.c4 c) (C.tot s c + 1) * C.pickVal (C.c5 c) 2 / 2 := Int.tdiv_eq_ediv_of_nonneg hxy.1
          generalize C.wideVal (C.c4 c) (C.tot s c + 1) = bx at *
          generalize C.pickVal (C.c5 c) 2 = y2 at *
          generalize hm : bx * y2 = bxy at *
          obtain ⟨hxy0, hxy1⟩ := hxy
          have x3 : w14.cell? ⟨w.heap.size + 1, 3, none⟩ = some (.int .i64 0) := H14.out.2.1.cell (i := 3) (by omega)
          have xf := H14.out.2.1.frozen 3
          have H15 : Hid (PT w (w14.setCell ⟨w.heap.size + 1, 3, none⟩ (.int .i64 (C.tot s c - bxy / 2))) B a cap C (.slice av (C.np c) cv) (.slice au (C.nz c) cu) (C.np c) (C.nz c) (pairs (C.plen s (C.c0 c)) (C.pbrake (C.c0 c)) (C.np c)) (triples (C.zfrom (C.tot s c) (C.c2 c)) (C.zto (C.tot s c) (C.c2 c)) (C.zspeed s (C.c2 c)) (C.nz c)) (C.wideVal (C.c3 c) (30 * s)) (C.tot s c - bxy / 2) 0 (C.c6 c)) := PT.set H14.out hBl 3 _ (p5_cases rfl rfl rfl rfl rfl)
          clear H14
          go_wp2_with fail
          refine (pick_any C HC.out a cap B _ 4 _ H15.out.2.2.2.2.1 (by omega) (by omega)).mono ?_
          rintro e w16 ⟨rfl, hr16, hg16⟩
          have HP16 := H15.out.step hBl hg16 hr16
          have HF : Hid ((C.prof s c).fin = C.tot s c - bxy / 2) := by
            show C.tot s c - C.back s c = _
            rw [HB0.out]
          have HD : Hid ((C.prof s c).delay = C.pickVal (C.c6 c) 4) := rfl
          have H17 : Hid (PT w (w16.setCell ⟨w.heap.size + 1, 4, none⟩ (.int .i64 (C.pickVal (C.c6 c) 4))) B a cap C (.slice av (C.np c) cv) (.slice au (C.nz c) cu) (C.np c) (C.nz c) (pairs (C.plen s (C.c0 c)) (C.pbrake (C.c0 c)) (C.np c)) (triples (C.zfrom (C.tot s c) (C.c2 c)) (C.zto (C.tot s c) (C.c2 c)) (C.zspeed s (C.c2 c)) (C.nz c)) (C.wideVal (C.c3 c) (30 * s)) (C.tot s c - bxy / 2) (C.pickVal (C.c6 c) 4) (C.c7 c)) := PT.set HP16 hBl 4 _ (p5_cases rfl rfl rfl rfl rfl)
          have d0 : w16.cell? ⟨w.heap.size + 1, 0, none⟩ = some (.slice av (C.np c) cv) := HP16.2.1.cell (i := 0) (by omega)
          have d1 : w16.cell? ⟨w.heap.size + 1, 1, none⟩ = some (.slice au (C.nz c) cu) := HP16.2.1.cell (i := 1) (by omega)
          have d2 : w16.cell? ⟨w.heap.size + 1, 2, none⟩ = some (.int .i64 (C.wideVal (C.c3 c) (30 * s))) := HP16.2.1.cell (i := 2) (by omega)
          have d3 : w16.cell? ⟨w.heap.size + 1, 3, none⟩ = some (.int .i64 (C.tot s c - bxy / 2)) := HP16.2.1.cell (i := 3) (by omega)
          have d4 : w16.cell? ⟨w.heap.size + 1, 4, none⟩ = some (.int .i64 0) := HP16.2.1.cell (i := 4) (by omega)
          have df := HP16.2.1.frozen
          have r0 : w16.cell? ⟨w.heap.size, 0, none⟩ = some nilS := HP16.1.cell (i := 0) (by omega)
          have r1 : w16.cell? ⟨w.heap.size, 1, none⟩ = some nilS := HP16.1.cell (i := 1) (by omega)
          have r2 : w16.cell? ⟨w.heap.size, 2, none⟩ = some (.int .i64 0) := HP16.1.cell (i := 2) (by omega)
          have r3 : w16.cell? ⟨w.heap.size, 3, none⟩ = some (.int .i64 0) := HP16.1.cell (i := 3) (by omega)
          have r4 : w16.cell? ⟨w.heap.size, 4, none⟩ = some (.int .i64 0) := HP16.1.cell (i := 4) (by omega)
          have rf := HP16.1.frozen
          clear H15 hr16 hg16 HP16 x3 xf
          go_wp2
          refine bodyPost_ret (v := .agg #[.slice av (C.np c) cv, .slice au (C.nz c) cu, .int .i64 (C.wideVal (C.c3 c) (30 * s)), .int .i64 (C.tot s c - bxy / 2), .int .i64 (C.pickVal (C.c6 c) 4)]) (by simp [results, Tryd.results11, go_sem, *]) rfl ⟨_, _, by rw [HT.out, HF.out, HD.out], ?_⟩
          obtain ⟨o1, o2, o3, o4, o5, o6⟩ := H17.out
          have g5 : ∀ (X : World) (v0 v1 v2 v3 v4 : Value), X.grownBy (((((X.setCell ⟨w.heap.size, 0, none⟩ v0).setCell ⟨w.heap.size, 1, none⟩ v1).setCell ⟨w.heap.size, 2, none⟩ v2).setCell ⟨w.heap.size, 3, none⟩ v3).setCell ⟨w.heap.size, 4, none⟩ v4) (some w.heap.size) := fun X v0 v1 v2 v3 v4 => grown_tr (grown_tr (grown_tr (grown_tr (grown_set _ _ _ _) (grown_set _ _ _ _)) (grown_set _ _ _ _)) (grown_set _ _ _ _)) (grown_set _ _ _ _)
          exact ⟨ownsRow_base (owned_grown o3 (g5 _ _ _ _ _ _) (fun j e he => by have h1 := ownsRow_block o3 j he; have h2 := Option.some.inj e; omega)) (by omega), ownsRow_base (owned_grown o4 (g5 _ _ _ _ _ _) (fun j e he => by have h1 := ownsRow_block o4 j he; have h2 := Option.some.inj e; omega)) (by omega), o5.grown (g5 _ _ _ _ _ _) (fun j e => by have h2 := Option.some.inj e; omega), grown_new o6 (g5 _ _ _ _ _ _) (fun j e => by have h2 := Option.some.inj e; omega)⟩

end Go.Proofs.YteodefmpkljedaaDoor
