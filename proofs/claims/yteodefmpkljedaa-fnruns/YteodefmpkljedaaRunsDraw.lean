/-
  What spec.Runs draws: a right profile of a short run.
-/
import Derived.Test.YteodefmpkljedaaDrawLaw
import Derived.Test.YteodefmpkljedaaUntil
import Derived.Test.YteodefmpkljedaaRunsLaw
namespace Go.Proofs.Yteodefmpkljedaa
open Go.RowKit Go.Sort Go.Shelf
attribute [local go_sem ↓] Go.wp_at_zero Go.wp_at_succ
set_option linter.unusedVariables false
set_option linter.unusedSimpArgs false

/-- What holds while the profile is made: the result's block, the profile's, its rows, the cursor. -/
def DS (w x : World) (B Pb : Nat) (a : Option Addr) (cap : Nat) (C : Txt) (v1 v2 : Value) (n k : Nat) (ps zs : List Value) (t e d : Int) (c : Cur) : Prop :=
  x.rowIs w.heap.size 26 5 (p5 nilS nilS 0 0 0) ∧ x.rowIs Pb 26 5 (p5 v1 v2 t e d) ∧ x.ownsRow (w.heap.size + 1) 53 2 v1 n ps ∧ x.ownsRow (w.heap.size + 1) 43 3 v2 k zs ∧ Reads x B a cap C c ∧ w.grownBy x (some B)
theorem DS.step {w x y : World} {B Pb : Nat} {a : Option Addr} {cap : Nat} {C : Txt} {v1 v2 : Value} {n k : Nat} {ps zs : List Value} {t e d : Int} {c c' : Cur} (h : DS w x B Pb a cap C v1 v2 n k ps zs t e d c) (hB : B < w.heap.size) (hP : w.heap.size < Pb) (hg : x.grownBy y (some B)) (hr : Reads y B a cap C c') : DS w y B Pb a cap C v1 v2 n k ps zs t e d c' := by
  obtain ⟨o1, o2, o3, o4, o5, o6⟩ := h
  exact ⟨rowIs_grown o1 hg (fun e => by have := Option.some.inj e; omega), rowIs_grown o2 hg (fun e => by have := Option.some.inj e; omega), owned_grown o3 hg (fun j e he => by have h1 := ownsRow_block o3 j he; have h2 := Option.some.inj e; omega), owned_grown o4 hg (fun j e he => by have h1 := ownsRow_block o4 j he; have h2 := Option.some.inj e; omega), hr, grown_tr o6 hg⟩
theorem DS.free {w x y : World} {B Pb : Nat} {a : Option Addr} {cap : Nat} {C : Txt} {v1 v2 : Value} {n k : Nat} {ps zs : List Value} {t e d : Int} {c : Cur} (h : DS w x B Pb a cap C v1 v2 n k ps zs t e d c) (hg : x.grownBy y none) : DS w y B Pb a cap C v1 v2 n k ps zs t e d c := by
  obtain ⟨o1, o2, o3, o4, o5, o6⟩ := h
  exact ⟨rowIs_grown o1 hg (fun e => by cases e), rowIs_grown o2 hg (fun e => by cases e), owned_grown o3 hg (fun j e => by cases e), owned_grown o4 hg (fun j e => by cases e), o5.grown hg (fun j e => by cases e), grown_new o6 hg (fun j e => by cases e)⟩
theorem grown_below {w y : World} (h : Below w.heap.size w y) : w.grownBy y none := ⟨h.os, h.tape, h.output, h.size, fun k hk _ => h.block k hk⟩

/-- The same with one zone more. -/
def Prof.withMore (P : Prof) (f t s : Int) : Prof := { P with nz := P.nz + 1, F := fun j => if j = P.nz then f else P.F j, T := fun j => if j = P.nz then t else P.T j, S := fun j => if j = P.nz then s else P.S j }
theorem triples_same {f g h f' g' h' : Nat → Int} : ∀ k, (∀ j, j < k → f j = f' j ∧ g j = g' j ∧ h j = h' j) → triples f g h k = triples f' g' h' k
  | 0, _ => rfl
  | k + 1, H => by
    obtain ⟨a, b, c⟩ := H k (Nat.lt_succ_self k)
    unfold triples
    rw [triples_same k (fun j hj => H j (Nat.lt_succ_of_lt hj)), a, b, c]
theorem triples_withMore (P : Prof) (f t s : Int) : triples (P.withMore f t s).F (P.withMore f t s).T (P.withMore f t s).S (P.nz + 1) = triples P.F P.T P.S P.nz ++ [.int .i64 f, .int .i64 t, .int .i64 s] := by
  have e1 : (P.withMore f t s).F P.nz = f := if_pos rfl
  have e2 : (P.withMore f t s).T P.nz = t := if_pos rfl
  have e3 : (P.withMore f t s).S P.nz = s := if_pos rfl
  conv => lhs; unfold triples
  have e4 : triples (P.withMore f t s).F (P.withMore f t s).T (P.withMore f t s).S P.nz = triples P.F P.T P.S P.nz := triples_same P.nz (fun j hj => ⟨if_neg (by omega), if_neg (by omega), if_neg (by omega)⟩)
  rw [e1, e2, e3, e4]
/-- A zone has been appended. -/
theorem DS.zone {w x y : World} {B Pb : Nat} {a : Option Addr} {cap : Nat} {C : Txt} {v u u' : Value} {n k : Nat} {ps zs zs' : List Value} {t e d : Int} {c : Cur} (h : DS w x B Pb a cap C v u n k ps zs t e d c) (hB : B < w.heap.size) (hP : w.heap.size < Pb) (hg : x.grownBy y u.ownBlock) (hown : y.ownsRow (w.heap.size + 1) 43 3 u' (k + 1) zs') : y.rowIs Pb 26 5 (p5 v u t e d) ∧ DS w (y.setCell ⟨Pb, 1, none⟩ u') B Pb a cap C v u' n (k + 1) ps zs' t e d c := by
  obtain ⟨o1, o2, o3, o4, o5, o6⟩ := h
  have hob := ownsRow_block o4
  have hne : ∀ j, u.ownBlock = some j → v.ownBlock ≠ some j := by
    intro j hj hv
    rcases o3.2 with ⟨rfl, _⟩ | ⟨g, cp, cur, rfl, h3, h4, _⟩
    · cases hv
    · rcases o4.2 with ⟨rfl, _⟩ | ⟨g', cp', cur', rfl, h3', h4', _⟩
      · cases hj
      · simp [Value.ownBlock] at hv hj
        subst hv hj
        rw [h4] at h4'
        simp at h4'
  have p1 : y.rowIs w.heap.size 26 5 (p5 nilS nilS 0 0 0) := rowIs_grown o1 hg (fun e => by have := hob _ e.symm; omega)
  have p2 : y.rowIs Pb 26 5 (p5 v u t e d) := rowIs_grown o2 hg (fun e => own_type o4 o2 (by decide) e.symm)
  have p3 := owned_grown o3 hg (fun j e he => hne j e he)
  have p5' := o5.grown hg (fun j e => by have := hob _ e; omega)
  have p6 := grown_new o6 hg (fun j e => by have := hob _ e; omega)
  have gs := grown_set y Pb 1 u'
  refine ⟨p2, p1.setOther (by simp; omega) _, ?_, owned_grown p3 gs (fun j e he => own_type p3 p2 (by decide) (by rw [he, e])), owned_grown hown gs (fun j e he => own_type hown p2 (by decide) (by rw [he, e])), p5'.grown gs (fun j e => by have h2 := Option.some.inj e; omega), grown_new p6 gs (fun j e => by have h2 := Option.some.inj e; omega)⟩
  refine (p2.set 1 _).congr fun i hi => ?_
  match i, hi with
  | 0, _ => rfl
  | 1, _ => rfl
  | 2, _ => rfl
  | 3, _ => rfl
  | 4, _ => rfl
/-- The five cells of the profile's variable. -/
def Cells5 (y : World) (Pb : Nat) (v1 v2 : Value) (t e d : Int) : Prop := y.cell? ⟨Pb, 0, none⟩ = some v1 ∧ y.cell? ⟨Pb, 1, none⟩ = some v2 ∧ y.cell? ⟨Pb, 2, none⟩ = some (.int .i64 t) ∧ y.cell? ⟨Pb, 3, none⟩ = some (.int .i64 e) ∧ y.cell? ⟨Pb, 4, none⟩ = some (.int .i64 d)
theorem cells5_of {y : World} {Pb : Nat} {v1 v2 : Value} {t e d : Int} (h : y.rowIs Pb 26 5 (p5 v1 v2 t e d)) : Cells5 y Pb v1 v2 t e d := ⟨h.cell (i := 0) (by omega), h.cell (i := 1) (by omega), h.cell (i := 2) (by omega), h.cell (i := 3) (by omega), h.cell (i := 4) (by omega)⟩
theorem withMore_ok {P : Prof} (h : P.Ok) (hz : P.nz ≤ 59) {f s : Int} (h0 : 0 ≤ f) (h1 : f ≤ P.total) (h2 : 1 ≤ s) (h3 : s ≤ 10000) : (P.withMore f P.total s).Ok where
  counts := ⟨h.counts.1, h.counts.2.1, show P.nz + 1 ≤ 60 by omega⟩
  pieces := h.pieces
  zones := fun j hj => by
    have hj' : j < P.nz + 1 := hj
    show (0 ≤ (if j = P.nz then f else P.F j) ∧ (if j = P.nz then f else P.F j) ≤ P.total) ∧ ((if j = P.nz then f else P.F j) ≤ (if j = P.nz then P.total else P.T j) ∧ (if j = P.nz then P.total else P.T j) ≤ P.total) ∧ (1 ≤ (if j = P.nz then s else P.S j) ∧ (if j = P.nz then s else P.S j) ≤ 10000)
    by_cases c : j = P.nz
    · simp only [if_pos c]; omega
    · simp only [if_neg c]; exact h.zones j (by omega)
  train := h.train
  fin := h.fin
  delay := h.delay

set_option maxRecDepth 20000 in
set_option maxHeartbeats 4000000 in
theorem short_any (C : Txt) (hC : C.Ok) (a : Option Addr) (cap B : Nat) (c : Cur) (w : World) (hr : Reads w B a cap C c) (p0 : 0 ≤ c.pos) (p1 : c.pos ≤ 1000) :
    Calls Try.prog 77 #[.pointer (some ⟨B, 0, none⟩)] w fun e w' => ∃ (P : Prof) (v1 v2 : Value) (c' : Cur), e = .returned (.agg #[v1, v2, .int .i64 P.train, .int .i64 P.fin, .int .i64 P.delay]) ∧ w'.ownsRow w.heap.size 53 2 v1 P.np (pairs P.L P.B P.np) ∧ w'.ownsRow w.heap.size 43 3 v2 P.nz (triples P.F P.T P.S P.nz) ∧ P.Ok ∧ Reads w' B a cap C c' ∧ (0 ≤ c'.pos ∧ c'.pos ≤ c.pos + 200) ∧ w.grownBy w' (some B) := by
  have HR : Hid (Reads w B a cap C c) := hr
  have HC : Hid C.Ok := hC
  have hBl := hr.lt
  clear hr hC
  go_enter Try.func77, Try.ntmps77
  go_wp2_with fail
  generalize hW : w.alloc _ = W
  have gW : w.grownBy W (some B) := by rw [← hW]; exact World.grownBy_alloc _ _ _
  have sW : W.heap.size = w.heap.size + 1 := by rw [← hW]; simp
  have rR : W.rowIs w.heap.size 26 5 (p5 nilS nilS 0 0 0) := by
    rw [← hW]
    exact World.rowIs_alloc w #[nilS, nilS, .int .i64 0, .int .i64 0, .int .i64 0] 26 (p5 nilS nilS 0 0 0) (fun i hi => by simp at hi; match i, hi with | 0, _ => rfl | 1, _ => rfl | 2, _ => rfl | 3, _ => rfl | 4, _ => rfl)
  have hRW : Reads W B a cap C c := by rw [← hW]; exact HR.out.grown (World.grownBy_alloc w _ none) (fun k e => by cases e)
  clear hW
  refine (profile_any C HC.out a cap B c 1 W hRW p0 (by omega) (by omega) (by omega)).mono ?_
  rintro e w1 ⟨v1, v2, rfl, ho1, ho2, hr1, hg1⟩
  have HOK : Hid (C.prof 1 c).Ok := Txt.prof_ok HC.out (by omega) (by omega) p0
  have hnp : (C.prof 1 c).np = C.np c := rfl
  have hnz : (C.prof 1 c).nz = C.nz c := rfl
  have hc7 := Txt.c7_pos HC.out p0
  obtain ⟨nz0, _⟩ := Txt.nz_bounds HC.out p0
  obtain ⟨Q0, hQ0⟩ : ∃ Q0, C.prof 1 c = Q0 := ⟨_, rfl⟩
  rw [hQ0] at HOK ho1 ho2 hnp hnz ⊢
  rw [← hnp] at ho1
  rw [← hnz] at ho2
  rw [← hnz] at nz0
  have s1 := hg1.size
  obtain ⟨av, cv, rfl, _, _, _⟩ := owned_shape ho1
  obtain ⟨au, cu, rfl, _, _, _⟩ := owned_shape ho2
  obtain ⟨Pb, hPb⟩ : ∃ Pb, w1.heap.size = Pb := ⟨_, rfl⟩
  obtain ⟨W1, hW1⟩ : ∃ W1, w1.alloc (.cells #[.slice av Q0.np cv, .slice au Q0.nz cu, .int .i64 Q0.train, .int .i64 Q0.fin, .int .i64 Q0.delay] 26) = W1 := ⟨_, rfl⟩
  have H1 : Hid (DS w W1 B Pb a cap C (.slice av Q0.np cv) (.slice au Q0.nz cu) Q0.np Q0.nz (pairs Q0.L Q0.B Q0.np) (triples Q0.F Q0.T Q0.S Q0.nz) Q0.train Q0.fin Q0.delay (C.c7 c)) := by
    have g2 : w1.grownBy W1 none := by rw [← hW1]; exact World.grownBy_alloc _ _ _
    refine ⟨rowIs_grown (rowIs_grown rR hg1 (fun e => by have := Option.some.inj e; omega)) g2 (fun e => by cases e), ?_, owned_grown (ownsRow_base ho1 (by omega)) g2 (fun j e => by cases e), owned_grown (ownsRow_base ho2 (by omega)) g2 (fun j e => by cases e), hr1.grown g2 (fun j e => by cases e), grown_new (grown_tr gW hg1) g2 (fun j e => by cases e)⟩
    rw [← hW1, ← hPb]
    exact World.rowIs_alloc w1 #[.slice av Q0.np cv, .slice au Q0.nz cu, .int .i64 Q0.train, .int .i64 Q0.fin, .int .i64 Q0.delay] 26 (p5 (.slice av Q0.np cv) (.slice au Q0.nz cu) Q0.train Q0.fin Q0.delay) (fun i hi => by simp at hi; match i, hi with | 0, _ => rfl | 1, _ => rfl | 2, _ => rfl | 3, _ => rfl | 4, _ => rfl)
  have hPw : w.heap.size < Pb := by omega
  clear ho1 ho2 hr1 hg1 gW rR hRW hQ0 hnp hnz
  go_wp2_with fail
  clear hW1 hPb
  refine (pick_any C HC.out a cap B (C.c7 c) 2 W1 H1.out.2.2.2.2.1 (by omega) (by omega)).mono ?_
  rintro e w2 ⟨rfl, hr2, hg2⟩
  have H2 : Hid (DS w w2 B Pb a cap C (.slice av Q0.np cv) (.slice au Q0.nz cu) Q0.np Q0.nz (pairs Q0.L Q0.B Q0.np) (triples Q0.F Q0.T Q0.S Q0.nz) Q0.train Q0.fin Q0.delay (C.pickCur (C.c7 c) 2)) := H1.out.step hBl hPw hg2 hr2
  have hc8 := C.pickCur_pos (C.c7 c) 2
  generalize C.pickCur (C.c7 c) 2 = c8 at *
  clear hr2 hg2 H1
  by_cases hz : C.pickVal (C.c7 c) 2 = 0
  · rw [hz]
    clear hz
    obtain ⟨j0, hj, jz0, jz1, jz2⟩ := info_parts Try.infoZoneD
    have htot := Prof.total_bounds HOK.out.lens
    obtain ⟨tot, hTot⟩ : ∃ tot, Q0.total = tot := ⟨_, rfl⟩
    have HTOT : Hid (Q0.total = tot) := hTot
    rw [hTot] at htot
    clear hTot
    have eT : Hid (∀ args w, (callFunc 76 args).run Try.prog w = .ok (.enter 76 args) w) := enters_of Try.func76 (by kernel_rfl) rfl
    have eP : Hid (∀ args w, (callFunc 43 args).run Try.prog w = .ok (.enter 43 args) w) := enters_of Try.func43 (by kernel_rfl) rfl
    have HLI : Hid (∀ y cur, DS w y B Pb a cap C (.slice av Q0.np cv) (.slice au Q0.nz cu) Q0.np Q0.nz (pairs Q0.L Q0.B Q0.np) (triples Q0.F Q0.T Q0.S Q0.nz) Q0.train Q0.fin Q0.delay cur → Q0.Lies y (.agg #[.slice av Q0.np cv, .slice au Q0.nz cu, .int .i64 Q0.train, .int .i64 Q0.fin, .int .i64 Q0.delay])) := fun y cur h => by
      obtain ⟨a1, c1, e1, p1, p2, _⟩ := owned_shape h.2.2.1
      obtain ⟨a2, c2, e2, z1, z2, _⟩ := owned_shape h.2.2.2.1
      exact ⟨_, _, _, _, rfl, ⟨by have := HOK.out.counts.2.1; omega, by have := Value.slice.inj e1; omega⟩, by omega, owned_row2 h.2.2.1, owned_row3 h.2.2.2.1⟩
    have HT : Hid (∀ y cur, DS w y B Pb a cap C (.slice av Q0.np cv) (.slice au Q0.nz cu) Q0.np Q0.nz (pairs Q0.L Q0.B Q0.np) (triples Q0.F Q0.T Q0.S Q0.nz) Q0.train Q0.fin Q0.delay cur → Calls Try.prog 76 #[(.agg #[.slice av Q0.np cv, .slice au Q0.nz cu, .int .i64 Q0.train, .int .i64 Q0.fin, .int .i64 Q0.delay])] y fun e y' => e = .returned (.int .i64 tot) ∧ DS w y' B Pb a cap C (.slice av Q0.np cv) (.slice au Q0.nz cu) Q0.np Q0.nz (pairs Q0.L Q0.B Q0.np) (triples Q0.F Q0.T Q0.S Q0.nz) Q0.train Q0.fin Q0.delay cur) := fun y cur h => (l2total_any Q0 _ y (HLI.out y cur h) HOK.out.lens).mono fun e y' h' => ⟨h'.1.trans (by rw [HTOT.out]), h.free (grown_below h'.2)⟩
    have HP : Hid (∀ y cur n, DS w y B Pb a cap C (.slice av Q0.np cv) (.slice au Q0.nz cu) Q0.np Q0.nz (pairs Q0.L Q0.B Q0.np) (triples Q0.F Q0.T Q0.S Q0.nz) Q0.train Q0.fin Q0.delay cur → 0 ≤ cur.pos → cur.pos ≤ 100000000000 → Calls Try.prog 43 #[.pointer (some ⟨B, 0, none⟩), .int .i64 n] y fun e y' => e = .returned (.int .i64 (C.pickVal cur n)) ∧ DS w y' B Pb a cap C (.slice av Q0.np cv) (.slice au Q0.nz cu) Q0.np Q0.nz (pairs Q0.L Q0.B Q0.np) (triples Q0.F Q0.T Q0.S Q0.nz) Q0.train Q0.fin Q0.delay (C.pickCur cur n)) := fun y cur n h q0 q1 => (pick_any C HC.out a cap B cur n y h.2.2.2.2.1 q0 q1).mono fun e y' h' => ⟨h'.1, h.step hBl hPw h'.2.2 h'.2.1⟩
    have H2d : Hid (DS w w2.drew B Pb a cap C (.slice av Q0.np cv) (.slice au Q0.nz cu) Q0.np Q0.nz (pairs Q0.L Q0.B Q0.np) (triples Q0.F Q0.T Q0.S Q0.nz) Q0.train Q0.fin Q0.delay c8) := H2.out.free (grown_one w2 none)
    have hS0 : (fun y : World => Cells5 y Pb (.slice av Q0.np cv) (.slice au Q0.nz cu) Q0.train Q0.fin Q0.delay) w2.drew := cells5_of H2d.out.2.1
    clear H2
    go_wp2_with fail
    refine wp_region_any (by kernel_rfl) (wpAnyU.any (S := (fun y : World => Cells5 y Pb (.slice av Q0.np cv) (.slice au Q0.nz cu) Q0.train Q0.fin Q0.delay)) (m := 16) _ _ _ _ ?_)
    change wpAnyU _ _ _ _ _ _ 17 _ _ w2.drew
    refine wpAnyU_take (i := 0) (v := .pointer (some ⟨Pb, 1, none⟩)) rfl (by kernel_rfl) (by kernel_rfl) (by kernel_rfl) (by kernel_rfl) (fun _ _ _ h => h) (Or.inl ⟨by rfl, fun y hy => ?_⟩) hS0 ?_
    · obtain ⟨k0, k1, k2, k3, k4⟩ := hy
      go_simp
    refine wpAnyU_take (i := 1) (v := .slice au Q0.nz cu) rfl (by kernel_rfl) (by kernel_rfl) (by kernel_rfl) (by kernel_rfl) (fun _ _ _ h => h) (Or.inl ⟨by rfl, fun y hy => ?_⟩) hS0 ?_
    · obtain ⟨k0, k1, k2, k3, k4⟩ := hy
      go_simp
    refine wpAnyU_take (i := 2) (v := .pointer (some ⟨B, 0, none⟩)) rfl (by kernel_rfl) (by kernel_rfl) (by kernel_rfl) (by kernel_rfl) (fun _ _ _ h => h) (Or.inl ⟨by rfl, fun y hy => ?_⟩) hS0 ?_
    · obtain ⟨k0, k1, k2, k3, k4⟩ := hy
      go_simp
    refine wpAnyU_take (i := 3) (v := (.agg #[.slice av Q0.np cv, .slice au Q0.nz cu, .int .i64 Q0.train, .int .i64 Q0.fin, .int .i64 Q0.delay])) rfl (by kernel_rfl) (by kernel_rfl) (by kernel_rfl) (by kernel_rfl) (fun _ _ _ h => h) (Or.inl ⟨by rfl, fun y hy => ?_⟩) hS0 ?_
    · obtain ⟨k0, k1, k2, k3, k4⟩ := hy
      go_simp
    refine wpAnyU_take (i := 7) (v := (.agg #[.slice av Q0.np cv, .slice au Q0.nz cu, .int .i64 Q0.train, .int .i64 Q0.fin, .int .i64 Q0.delay])) rfl (by kernel_rfl) (by kernel_rfl) (by kernel_rfl) (by kernel_rfl) (fun _ _ _ h => h) (Or.inl ⟨by rfl, fun y hy => ?_⟩) hS0 ?_
    · obtain ⟨k0, k1, k2, k3, k4⟩ := hy
      go_simp
    refine wpAnyU_take (i := 9) (v := .pointer (some ⟨B, 0, none⟩)) rfl (by kernel_rfl) (by kernel_rfl) (by kernel_rfl) (by kernel_rfl) (fun _ _ _ h => h) (Or.inl ⟨by rfl, fun y hy => ?_⟩) hS0 ?_
    · obtain ⟨k0, k1, k2, k3, k4⟩ := hy
      go_simp
    refine wpAnyU_one (i := 4) rfl (by kernel_rfl) (fun K hK => ?_)
    refine step_call1 rfl 76 (.tmp 12) _ rfl (.agg #[.slice av Q0.np cv, .slice au Q0.nz cu, .int .i64 Q0.train, .int .i64 Q0.fin, .int .i64 Q0.delay]) (by simp [Act.eval, Act.put]) eT.out (HT.out _ _ H2d.out) ?_
    rintro e w4 ⟨rfl, h4⟩
    have H4 : Hid (DS w w4 B Pb a cap C (.slice av Q0.np cv) (.slice au Q0.nz cu) Q0.np Q0.nz (pairs Q0.L Q0.B Q0.np) (triples Q0.F Q0.T Q0.S Q0.nz) Q0.train Q0.fin Q0.delay c8) := h4
    clear hS0
    have hS0 : (fun y : World => Cells5 y Pb (.slice av Q0.np cv) (.slice au Q0.nz cu) Q0.train Q0.fin Q0.delay) w4 := cells5_of H4.out.2.1
    refine ⟨_, rfl, hK _ _ (Or.inr hS0) ?_⟩
    clear hK K H2d h4
    refine wpAnyU_take (i := 5) (v := .int .i64 (tot + 1)) rfl (by kernel_rfl) (by kernel_rfl) (by kernel_rfl) (by kernel_rfl) (fun _ _ _ h => h) (Or.inl ⟨by rfl, fun y hy => ?_⟩) hS0 ?_
    · obtain ⟨k0, k1, k2, k3, k4⟩ := hy
      go_simp
      exact wrapIn (by omega) (by omega)
    refine wpAnyU_one (i := 6) rfl (by kernel_rfl) (fun K hK => ?_)
    refine step_two rfl 43 (.tmp 11) (.tmp 14) _ rfl (.pointer (some ⟨B, 0, none⟩)) (.int .i64 (tot + 1)) (by simp [Act.eval, Act.put]) (by simp [Act.eval, Act.put]) eP.out (HP.out _ _ (tot + 1) H4.out (by omega) (by omega)) ?_
    rintro e w5 ⟨rfl, h5⟩
    have H5 : Hid (DS w w5 B Pb a cap C (.slice av Q0.np cv) (.slice au Q0.nz cu) Q0.np Q0.nz (pairs Q0.L Q0.B Q0.np) (triples Q0.F Q0.T Q0.S Q0.nz) Q0.train Q0.fin Q0.delay (C.pickCur c8 (tot + 1))) := h5
    clear hS0
    have hS0 : (fun y : World => Cells5 y Pb (.slice av Q0.np cv) (.slice au Q0.nz cu) Q0.train Q0.fin Q0.delay) w5 := cells5_of H5.out.2.1
    refine ⟨_, rfl, hK _ _ (Or.inr hS0) ?_⟩
    clear hK K H4 h5
    have hpf := Txt.pickVal_bounds HC.out (c := c8) (by omega) (n := tot + 1) (by omega)
    have hc9 := C.pickCur_pos c8 (tot + 1)
    generalize C.pickVal c8 (tot + 1) = zf at *
    generalize C.pickCur c8 (tot + 1) = c9 at *
    refine wpAnyU_one (i := 8) rfl (by kernel_rfl) (fun K hK => ?_)
    refine step_call1 rfl 76 (.tmp 16) _ rfl (.agg #[.slice av Q0.np cv, .slice au Q0.nz cu, .int .i64 Q0.train, .int .i64 Q0.fin, .int .i64 Q0.delay]) (by simp [Act.eval, Act.put]) eT.out (HT.out _ _ H5.out) ?_
    rintro e w6 ⟨rfl, h6⟩
    have H6 : Hid (DS w w6 B Pb a cap C (.slice av Q0.np cv) (.slice au Q0.nz cu) Q0.np Q0.nz (pairs Q0.L Q0.B Q0.np) (triples Q0.F Q0.T Q0.S Q0.nz) Q0.train Q0.fin Q0.delay c9) := h6
    clear hS0
    have hS0 : (fun y : World => Cells5 y Pb (.slice av Q0.np cv) (.slice au Q0.nz cu) Q0.train Q0.fin Q0.delay) w6 := cells5_of H6.out.2.1
    refine ⟨_, rfl, hK _ _ (Or.inr hS0) ?_⟩
    clear hK K H5 h6
    refine wpAnyU_one (i := 10) rfl (by kernel_rfl) (fun K hK => ?_)
    refine step_two rfl 43 (.tmp 18) (.const (.int .i64 20)) _ rfl (.pointer (some ⟨B, 0, none⟩)) (.int .i64 20) (by simp [Act.eval, Act.put]) (by simp [Act.eval]) eP.out (HP.out _ _ 20 H6.out (by omega) (by omega)) ?_
    rintro e w7 ⟨rfl, h7⟩
    have H7 : Hid (DS w w7 B Pb a cap C (.slice av Q0.np cv) (.slice au Q0.nz cu) Q0.np Q0.nz (pairs Q0.L Q0.B Q0.np) (triples Q0.F Q0.T Q0.S Q0.nz) Q0.train Q0.fin Q0.delay (C.pickCur c9 20)) := h7
    clear hS0
    have hS0 : (fun y : World => Cells5 y Pb (.slice av Q0.np cv) (.slice au Q0.nz cu) Q0.train Q0.fin Q0.delay) w7 := cells5_of H7.out.2.1
    refine ⟨_, rfl, hK _ _ (Or.inr hS0) ?_⟩
    clear hK K H6 h7
    have hps := Txt.pickVal_bounds HC.out (c := c9) (by omega) (n := 20) (by omega)
    have hc10 := C.pickCur_pos c9 20
    generalize C.pickVal c9 20 = zs at *
    generalize C.pickCur c9 20 = c10 at *
    refine wpAnyU_take (i := 11) (v := .int .i64 (1 + zs)) rfl (by kernel_rfl) (by kernel_rfl) (by kernel_rfl) (by kernel_rfl) (fun _ _ _ h => h) (Or.inl ⟨by rfl, fun y hy => ?_⟩) hS0 ?_
    · obtain ⟨k0, k1, k2, k3, k4⟩ := hy
      go_simp
      exact wrapIn (by omega) (by omega)
    refine wpAnyU_take (i := 12) (v := .agg #[.int .i64 zf, .int .i64 tot, .int .i64 (1 + zs)]) rfl (by kernel_rfl) (by kernel_rfl) (by kernel_rfl) (by kernel_rfl) (fun _ _ _ h => h) (Or.inl ⟨by rfl, fun y hy => ?_⟩) hS0 ?_
    · obtain ⟨k0, k1, k2, k3, k4⟩ := hy
      go_simp
    refine wpAnyU_one (i := 13) rfl (by kernel_rfl) (fun K hK => ?_)
    go_simp
    obtain ⟨W8, hW8⟩ : ∃ W8, w7.alloc (.cells #[.int .i64 zf, .int .i64 tot, .int .i64 (1 + zs)] 43) = W8 := ⟨_, rfl⟩
    have H8 : Hid (DS w W8 B Pb a cap C (.slice av Q0.np cv) (.slice au Q0.nz cu) Q0.np Q0.nz (pairs Q0.L Q0.B Q0.np) (triples Q0.F Q0.T Q0.S Q0.nz) Q0.train Q0.fin Q0.delay c10) := by show DS _ _ _ _ _ _ _ _ _ _ _ _ _ _ _ _ _; rw [← hW8]; exact H7.out.free (World.grownBy_alloc _ _ none)
    have hn8 : ∀ j u, [Value.int .i64 zf, .int .i64 tot, .int .i64 (1 + zs)][j]? = some u → W8.cell? ((⟨w7.heap.size, 0, none⟩ : Addr).add j) = some u := by rw [← hW8]; exact alloc_add3 w7 _ _ _ _
    have hs8 : W8.heap.size = w7.heap.size + 1 := by rw [← hW8]; simp
    rw [hW8]
    clear hS0 hW8 H7
    have hS0 : (fun y : World => Cells5 y Pb (.slice av Q0.np cv) (.slice au Q0.nz cu) Q0.train Q0.fin Q0.delay) W8 := cells5_of H8.out.2.1
    have l8 := H8.out.1.lt
    refine hK _ _ (Or.inr hS0) ?_
    clear hK K
    refine wpAnyU_one (i := 14) rfl (by kernel_rfl) (fun K hK => ?_)
    refine step_append_own rfl (.tmp 10) (.tmp 22) 24 rfl (w.heap.size + 1) 43 j0 (.agg #[.int .i64 0, .int .i64 0, .int .i64 0]) 3 24 Try.underlying24 hj jz0 jz1 jz2 rfl (by decide) (.slice au Q0.nz cu) Q0.nz _ (by simp [Act.eval]) H8.out.2.2.2.1 ⟨w7.heap.size, 0, none⟩ 1 1 [.int .i64 zf, .int .i64 tot, .int .i64 (1 + zs)] (by simp [Act.eval]) rfl hn8 (by simp [Value.oneCell']) (by unfold maxLen; omega) (by omega) (by omega) ?_
    intro v9 w9 hown9 hgrow9
    obtain ⟨a9, c9', rfl, _, _, _⟩ := owned_shape hown9
    obtain ⟨hp9, hd9⟩ := H8.out.zone hBl hPw hgrow9 hown9
    have HF : Hid (DS w (w9.setCell ⟨Pb, 1, none⟩ (.slice a9 (Q0.nz + 1) c9')) B Pb a cap C (.slice av Q0.np cv) (.slice a9 (Q0.nz + 1) c9') Q0.np (Q0.nz + 1) (pairs Q0.L Q0.B Q0.np) (triples Q0.F Q0.T Q0.S Q0.nz ++ [.int .i64 zf, .int .i64 tot, .int .i64 (1 + zs)]) Q0.train Q0.fin Q0.delay c10) := hd9
    clear hS0 hn8
    have hS0 : (fun y : World => Cells5 y Pb (.slice av Q0.np cv) (.slice au Q0.nz cu) Q0.train Q0.fin Q0.delay) w9 := cells5_of hp9
    have xq := hp9.cell (i := 1) (by omega)
    have xf := hp9.frozen 1
    refine hK _ _ (Or.inr hS0) ?_
    clear hK K hown9 hgrow9 hd9 hp9 H8
    refine wpAnyU_take (i := 15) (v := .pointer (some ⟨Pb, 1, none⟩)) rfl (by kernel_rfl) (by kernel_rfl) (by kernel_rfl) (by kernel_rfl) (fun _ _ _ h => h) (Or.inl ⟨by rfl, fun y hy => ?_⟩) hS0 ?_
    · obtain ⟨k0, k1, k2, k3, k4⟩ := hy
      go_simp
    refine wpAnyU_one (i := 16) rfl (by kernel_rfl) (fun K hK => ?_)
    have x1 : w9.cell? ⟨Pb, 1, none⟩ = some (.slice au Q0.nz cu) := hS0.2.1
    clear xq
    go_simp
    refine hK _ _ (Or.inl rfl) ?_
    clear hK K hS0 x1 xf
    refine wpAnyU_done (by kernel_rfl) ?_ _
    obtain ⟨wf, hwf⟩ : ∃ wf, w9.setCell ⟨Pb, 1, none⟩ (.slice a9 (Q0.nz + 1) c9') = wf := ⟨_, rfl⟩
    rw [hwf] at HF ⊢
    rw [show triples Q0.F Q0.T Q0.S Q0.nz ++ [Value.int .i64 zf, .int .i64 tot, .int .i64 (1 + zs)] = triples (Q0.withMore zf tot (1 + zs)).F (Q0.withMore zf tot (1 + zs)).T (Q0.withMore zf tot (1 + zs)).S (Q0.nz + 1) from (triples_withMore Q0 zf tot (1 + zs)).symm] at HF
    clear hwf
    have HM : Hid (Q0.withMore zf tot (1 + zs)).Ok := by
      have h := withMore_ok HOK.out (f := zf) (s := 1 + zs) (by omega) (by omega) (by rw [HTOT.out]; omega) (by omega) (by omega)
      rw [HTOT.out] at h
      exact h
    obtain ⟨x0, x1, x2, x3, x4⟩ := cells5_of HF.out.2.1
    have y0 : wf.cell? ⟨w.heap.size, 0, none⟩ = some nilS := HF.out.1.cell (i := 0) (by omega)
    have y1 : wf.cell? ⟨w.heap.size, 1, none⟩ = some nilS := HF.out.1.cell (i := 1) (by omega)
    have y2 : wf.cell? ⟨w.heap.size, 2, none⟩ = some (.int .i64 0) := HF.out.1.cell (i := 2) (by omega)
    have y3 : wf.cell? ⟨w.heap.size, 3, none⟩ = some (.int .i64 0) := HF.out.1.cell (i := 3) (by omega)
    have y4 : wf.cell? ⟨w.heap.size, 4, none⟩ = some (.int .i64 0) := HF.out.1.cell (i := 4) (by omega)
    have yf := HF.out.1.frozen
    have hne5 : ¬ (Pb = w.heap.size) := by omega
    go_wp2
    refine bodyPost_ret (v := .agg #[.slice av Q0.np cv, (.slice a9 (Q0.nz + 1) c9'), .int .i64 Q0.train, .int .i64 Q0.fin, .int .i64 Q0.delay]) (by simp [results, Try.results77, go_sem, *]) rfl ⟨Q0.withMore zf tot (1 + zs), _, _, c10, rfl, ?_⟩
    obtain ⟨o1, o2, o3, o4, o5, o6⟩ := HF.out
    have g5 : ∀ (X : World) (v0 v1 v2 v3 v4 : Value), X.grownBy (((((X.setCell ⟨w.heap.size, 0, none⟩ v0).setCell ⟨w.heap.size, 1, none⟩ v1).setCell ⟨w.heap.size, 2, none⟩ v2).setCell ⟨w.heap.size, 3, none⟩ v3).setCell ⟨w.heap.size, 4, none⟩ v4) (some w.heap.size) := fun X v0 v1 v2 v3 v4 => grown_tr (grown_tr (grown_tr (grown_tr (grown_set _ _ _ _) (grown_set _ _ _ _)) (grown_set _ _ _ _)) (grown_set _ _ _ _)) (grown_set _ _ _ _)
    exact ⟨ownsRow_base (owned_grown o3 (g5 _ _ _ _ _ _) (fun j e he => by have h1 := ownsRow_block o3 j he; have h2 := Option.some.inj e; omega)) (by omega), ownsRow_base (owned_grown o4 (g5 _ _ _ _ _ _) (fun j e he => by have h1 := ownsRow_block o4 j he; have h2 := Option.some.inj e; omega)) (by omega), HM.out, o5.grown (g5 _ _ _ _ _ _) (fun j e => by have h2 := Option.some.inj e; omega), by omega, grown_new o6 (g5 _ _ _ _ _ _) (fun j e => by have h2 := Option.some.inj e; omega)⟩
  · have hz' : (C.pickVal (C.c7 c) 2 == 0) = false := by simpa using hz
    have HF := H2
    clear H2
    obtain ⟨x0, x1, x2, x3, x4⟩ := cells5_of HF.out.2.1
    have y0 : w2.cell? ⟨w.heap.size, 0, none⟩ = some nilS := HF.out.1.cell (i := 0) (by omega)
    have y1 : w2.cell? ⟨w.heap.size, 1, none⟩ = some nilS := HF.out.1.cell (i := 1) (by omega)
    have y2 : w2.cell? ⟨w.heap.size, 2, none⟩ = some (.int .i64 0) := HF.out.1.cell (i := 2) (by omega)
    have y3 : w2.cell? ⟨w.heap.size, 3, none⟩ = some (.int .i64 0) := HF.out.1.cell (i := 3) (by omega)
    have y4 : w2.cell? ⟨w.heap.size, 4, none⟩ = some (.int .i64 0) := HF.out.1.cell (i := 4) (by omega)
    have yf := HF.out.1.frozen
    have hne5 : ¬ (Pb = w.heap.size) := by omega
    go_wp2
    refine bodyPost_ret (v := .agg #[.slice av Q0.np cv, .slice au Q0.nz cu, .int .i64 Q0.train, .int .i64 Q0.fin, .int .i64 Q0.delay]) (by simp [results, Try.results77, go_sem, *]) rfl ⟨Q0, _, _, c8, rfl, ?_⟩
    obtain ⟨o1, o2, o3, o4, o5, o6⟩ := HF.out
    have g5 : ∀ (X : World) (v0 v1 v2 v3 v4 : Value), X.grownBy (((((X.setCell ⟨w.heap.size, 0, none⟩ v0).setCell ⟨w.heap.size, 1, none⟩ v1).setCell ⟨w.heap.size, 2, none⟩ v2).setCell ⟨w.heap.size, 3, none⟩ v3).setCell ⟨w.heap.size, 4, none⟩ v4) (some w.heap.size) := fun X v0 v1 v2 v3 v4 => grown_tr (grown_tr (grown_tr (grown_tr (grown_set _ _ _ _) (grown_set _ _ _ _)) (grown_set _ _ _ _)) (grown_set _ _ _ _)) (grown_set _ _ _ _)
    exact ⟨ownsRow_base (owned_grown o3 (g5 _ _ _ _ _ _) (fun j e he => by have h1 := ownsRow_block o3 j he; have h2 := Option.some.inj e; omega)) (by omega), ownsRow_base (owned_grown o4 (g5 _ _ _ _ _ _) (fun j e he => by have h1 := ownsRow_block o4 j he; have h2 := Option.some.inj e; omega)) (by omega), HOK.out, o5.grown (g5 _ _ _ _ _ _) (fun j e => by have h2 := Option.some.inj e; omega), by omega, grown_new o6 (g5 _ _ _ _ _ _) (fun j e => by have h2 := Option.some.inj e; omega)⟩
/-- As above, the cursor being new too. -/
def DR (w x : World) (B Pb : Nat) (a : Option Addr) (cap : Nat) (C : Txt) (v1 v2 : Value) (n k : Nat) (ps zs : List Value) (t e d : Int) (c : Cur) : Prop :=
  x.rowIs w.heap.size 26 5 (p5 nilS nilS 0 0 0) ∧ x.rowIs Pb 26 5 (p5 v1 v2 t e d) ∧ x.ownsRow (w.heap.size + 2) 53 2 v1 n ps ∧ x.ownsRow (w.heap.size + 2) 43 3 v2 k zs ∧ Reads x B a cap C c ∧ w.grownBy x (some B)
theorem DR.step {w x y : World} {Pb : Nat} {a : Option Addr} {cap : Nat} {C : Txt} {v1 v2 : Value} {n k : Nat} {ps zs : List Value} {t e d : Int} {c c' : Cur} (h : DR w x (w.heap.size + 1) Pb a cap C v1 v2 n k ps zs t e d c) (hP : w.heap.size + 1 < Pb) (hg : x.grownBy y (some (w.heap.size + 1))) (hr : Reads y (w.heap.size + 1) a cap C c') : DR w y (w.heap.size + 1) Pb a cap C v1 v2 n k ps zs t e d c' := by
  obtain ⟨o1, o2, o3, o4, o5, o6⟩ := h
  exact ⟨rowIs_grown o1 hg (fun e => by have := Option.some.inj e; omega), rowIs_grown o2 hg (fun e => by have := Option.some.inj e; omega), owned_grown o3 hg (fun j e he => by have h1 := ownsRow_block o3 j he; have h2 := Option.some.inj e; omega), owned_grown o4 hg (fun j e he => by have h1 := ownsRow_block o4 j he; have h2 := Option.some.inj e; omega), hr, grown_tr o6 hg⟩
theorem DR.free {w x y : World} {B Pb : Nat} {a : Option Addr} {cap : Nat} {C : Txt} {v1 v2 : Value} {n k : Nat} {ps zs : List Value} {t e d : Int} {c : Cur} (h : DR w x B Pb a cap C v1 v2 n k ps zs t e d c) (hg : x.grownBy y none) : DR w y B Pb a cap C v1 v2 n k ps zs t e d c := by
  obtain ⟨o1, o2, o3, o4, o5, o6⟩ := h
  exact ⟨rowIs_grown o1 hg (fun e => by cases e), rowIs_grown o2 hg (fun e => by cases e), owned_grown o3 hg (fun j e => by cases e), owned_grown o4 hg (fun j e => by cases e), o5.grown hg (fun j e => by cases e), grown_new o6 hg (fun j e => by cases e)⟩

set_option maxRecDepth 20000 in
set_option maxHeartbeats 4000000 in
theorem runs_any (C : Txt) (hC : C.Ok) (a : Option Addr) (cap : Nat) (w : World) (hr : TxtIn w a C) :
    Calls Try.prog 33 #[.slice a C.len cap] w fun e w' => ∃ (P : Prof) (v1 v2 : Value) (acc x short : Int), e = .returned (.tuple #[.agg #[v1, v2, .int .i64 P.train, .int .i64 P.fin, .int .i64 P.delay], .int .i64 acc, .int .i64 x, .int .i64 short]) ∧ w'.ownsRow w.heap.size 53 2 v1 P.np (pairs P.L P.B P.np) ∧ w'.ownsRow w.heap.size 43 3 v2 P.nz (triples P.F P.T P.S P.nz) ∧ P.RunDrawn acc x short ∧ Below w.heap.size w w' := by
  have HR : Hid (TxtIn w a C) := hr
  have HC : Hid C.Ok := hC
  clear hr hC
  go_enter Try.func33, Try.ntmps33
  go_wp2_with fail
  generalize hW : (w.alloc _).alloc _ = W
  have gW : w.grownBy W (some (w.heap.size + 1)) := by rw [← hW]; exact grown_tr (World.grownBy_alloc _ _ _) (World.grownBy_alloc _ _ _)
  have sW : W.heap.size = w.heap.size + 2 := by rw [← hW]; simp
  have rR : W.rowIs w.heap.size 26 5 (p5 nilS nilS 0 0 0) := by
    have := (World.rowIs_alloc w #[nilS, nilS, .int .i64 0, .int .i64 0, .int .i64 0] 26 (p5 nilS nilS 0 0 0) (fun i hi => by simp at hi; match i, hi with | 0, _ => rfl | 1, _ => rfl | 2, _ => rfl | 3, _ => rfl | 4, _ => rfl)).alloc (.cells #[.slice a C.len cap, .int .i64 0, .int .u64 0] 63)
    rw [← hW]; exact this
  have hRW : Reads W (w.heap.size + 1) a cap C Txt.start := by
    constructor
    · have := World.rowIs_alloc (w.alloc (.cells #[nilS, nilS, .int .i64 0, .int .i64 0, .int .i64 0] 26)) #[.slice a C.len cap, .int .i64 0, .int .u64 0] 63 (curCells a C.len cap Txt.start) (fun i hi => by simp at hi; match i, hi with | 0, _ => rfl | 1, _ => rfl | 2, _ => rfl)
      rw [World.size_alloc] at this
      rw [← hW]; exact this
    · rcases HR.out with h | ⟨b, off, rfl, hb, hc⟩
      · exact Or.inl h
      · exact Or.inr ⟨b, off, rfl, by omega, fun j hj => gW.cell (hc j hj) (fun e => by have h2 : b = w.heap.size + 1 := Option.some.inj e; omega)⟩
  clear hW
  refine (short_any C HC.out a cap (w.heap.size + 1) Txt.start W hRW (by show (0 : Int) ≤ 0; omega) (by show (0 : Int) ≤ _; omega)).mono ?_
  rintro e w1 ⟨P, v1, v2, c1, rfl, ho1, ho2, hok, hr1, ⟨p0, p1⟩, hg1⟩
  have hst : Txt.start.pos = 0 := rfl
  rw [hst] at p1
  have HOK : Hid P.Ok := hok
  have s1 := hg1.size
  obtain ⟨av, cv, rfl, _, _, _⟩ := owned_shape ho1
  obtain ⟨au, cu, rfl, _, _, _⟩ := owned_shape ho2
  obtain ⟨Pb, hPb⟩ : ∃ Pb, w1.heap.size = Pb := ⟨_, rfl⟩
  obtain ⟨W1, hW1⟩ : ∃ W1, w1.alloc (.cells #[.slice av P.np cv, .slice au P.nz cu, .int .i64 P.train, .int .i64 P.fin, .int .i64 P.delay] 26) = W1 := ⟨_, rfl⟩
  have H1 : Hid (DR w W1 (w.heap.size + 1) Pb a cap C (.slice av P.np cv) (.slice au P.nz cu) P.np P.nz (pairs P.L P.B P.np) (triples P.F P.T P.S P.nz) P.train P.fin P.delay c1) := by
    have g2 : w1.grownBy W1 none := by rw [← hW1]; exact World.grownBy_alloc _ _ _
    refine ⟨rowIs_grown (rowIs_grown rR hg1 (by simp)) g2 (fun e => by cases e), ?_, owned_grown (ownsRow_base ho1 (by omega)) g2 (fun j e => by cases e), owned_grown (ownsRow_base ho2 (by omega)) g2 (fun j e => by cases e), hr1.grown g2 (fun j e => by cases e), grown_new (grown_tr gW hg1) g2 (fun j e => by cases e)⟩
    rw [← hW1, ← hPb]
    exact World.rowIs_alloc w1 #[.slice av P.np cv, .slice au P.nz cu, .int .i64 P.train, .int .i64 P.fin, .int .i64 P.delay] 26 (p5 (.slice av P.np cv) (.slice au P.nz cu) P.train P.fin P.delay) (fun i hi => by simp at hi; match i, hi with | 0, _ => rfl | 1, _ => rfl | 2, _ => rfl | 3, _ => rfl | 4, _ => rfl)
  have hPw : w.heap.size + 1 < Pb := by omega
  clear ho1 ho2 hr1 hg1 gW rR hRW hok hst
  go_wp2_with fail
  clear hW1 hPb
  refine (pick_any C HC.out a cap (w.heap.size + 1) c1 9 W1 H1.out.2.2.2.2.1 (by omega) (by omega)).mono ?_
  rintro e w2 ⟨rfl, hr2, hg2⟩
  have H2 : Hid (DR w w2 (w.heap.size + 1) Pb a cap C (.slice av P.np cv) (.slice au P.nz cu) P.np P.nz (pairs P.L P.B P.np) (triples P.F P.T P.S P.nz) P.train P.fin P.delay (C.pickCur c1 9)) := H1.out.step hPw hg2 hr2
  have hc2 := C.pickCur_pos c1 9
  have hpa := Txt.pickVal_bounds HC.out (c := c1) (by omega) (n := 9) (by omega)
  generalize C.pickVal c1 9 = ac at *
  generalize C.pickCur c1 9 = c2 at *
  clear hr2 hg2 H1
  have hfin := HOK.out.fin
  have htot := (Prof.total_bounds HOK.out.lens).2
  have eW : Hid (∀ args w, (callFunc 44 args).run Try.prog w = .ok (.enter 44 args) w) := enters_of Try.func44 (by kernel_rfl) rfl
  have eP : Hid (∀ args w, (callFunc 43 args).run Try.prog w = .ok (.enter 43 args) w) := enters_of Try.func43 (by kernel_rfl) rfl
  have HP : Hid (∀ y cur n, DR w y (w.heap.size + 1) Pb a cap C (.slice av P.np cv) (.slice au P.nz cu) P.np P.nz (pairs P.L P.B P.np) (triples P.F P.T P.S P.nz) P.train P.fin P.delay cur → 0 ≤ cur.pos → cur.pos ≤ 100000000000 → Calls Try.prog 43 #[.pointer (some ⟨w.heap.size + 1, 0, none⟩), .int .i64 n] y fun e y' => e = .returned (.int .i64 (C.pickVal cur n)) ∧ DR w y' (w.heap.size + 1) Pb a cap C (.slice av P.np cv) (.slice au P.nz cu) P.np P.nz (pairs P.L P.B P.np) (triples P.F P.T P.S P.nz) P.train P.fin P.delay (C.pickCur cur n)) := fun y cur n h q0 q1 => (pick_any C HC.out a cap (w.heap.size + 1) cur n y h.2.2.2.2.1 q0 q1).mono fun e y' h' => ⟨h'.1, h.step hPw h'.2.2 h'.2.1⟩
  have HWI : Hid (∀ y cur n, DR w y (w.heap.size + 1) Pb a cap C (.slice av P.np cv) (.slice au P.nz cu) P.np P.nz (pairs P.L P.B P.np) (triples P.F P.T P.S P.nz) P.train P.fin P.delay cur → 0 ≤ cur.pos → cur.pos ≤ 100000000000 → 1 ≤ n → Calls Try.prog 44 #[.pointer (some ⟨w.heap.size + 1, 0, none⟩), .int .i64 n] y fun e y' => e = .returned (.int .i64 (C.wideVal cur n)) ∧ DR w y' (w.heap.size + 1) Pb a cap C (.slice av P.np cv) (.slice au P.nz cu) P.np P.nz (pairs P.L P.B P.np) (triples P.F P.T P.S P.nz) P.train P.fin P.delay (C.wideCur cur)) := fun y cur n h q0 q1 q2 => (wide_any C HC.out a cap (w.heap.size + 1) cur n y h.2.2.2.2.1 q0 q1 q2).mono fun e y' h' => ⟨h'.1, h.step hPw h'.2.2 h'.2.1⟩
  have H2d : Hid (DR w w2.drew (w.heap.size + 1) Pb a cap C (.slice av P.np cv) (.slice au P.nz cu) P.np P.nz (pairs P.L P.B P.np) (triples P.F P.T P.S P.nz) P.train P.fin P.delay c2) := H2.out.free (grown_one w2 none)
  have hS0 : (fun y : World => Cells5 y Pb (.slice av P.np cv) (.slice au P.nz cu) P.train P.fin P.delay) w2.drew := cells5_of H2d.out.2.1
  clear H2
  go_wp2_with fail
  refine wp_region_held (S := (fun y : World => Cells5 y Pb (.slice av P.np cv) (.slice au P.nz cu) P.train P.fin P.delay)) (by kernel_rfl) ?_
  change wpAnyH _ _ _ _ _ 17 _ _ w2.drew
  refine wpAnyH_take (i := 0) (v := (.agg #[.slice av P.np cv, .slice au P.nz cu, .int .i64 P.train, .int .i64 P.fin, .int .i64 P.delay])) rfl (by kernel_rfl) (by kernel_rfl) (by kernel_rfl) (fun _ _ _ h => h) (Or.inl ⟨by rfl, fun y hy => ?_⟩) hS0 ?_
  · obtain ⟨k0, k1, k2, k3, k4⟩ := hy
    go_simp
  refine wpAnyH_take (i := 1) (v := .int .i64 (1 + ac)) rfl (by kernel_rfl) (by kernel_rfl) (by kernel_rfl) (fun _ _ _ h => h) (Or.inl ⟨by rfl, fun y hy => ?_⟩) hS0 ?_
  · obtain ⟨k0, k1, k2, k3, k4⟩ := hy
    go_simp
  refine wpAnyH_take (i := 2) (v := .pointer (some ⟨w.heap.size + 1, 0, none⟩)) rfl (by kernel_rfl) (by kernel_rfl) (by kernel_rfl) (fun _ _ _ h => h) (Or.inl ⟨by rfl, fun y hy => ?_⟩) hS0 ?_
  · obtain ⟨k0, k1, k2, k3, k4⟩ := hy
    go_simp
  refine wpAnyH_take (i := 3) (v := .pointer (some ⟨Pb, 3, none⟩)) rfl (by kernel_rfl) (by kernel_rfl) (by kernel_rfl) (fun _ _ _ h => h) (Or.inl ⟨by rfl, fun y hy => ?_⟩) hS0 ?_
  · obtain ⟨k0, k1, k2, k3, k4⟩ := hy
    go_simp
  refine wpAnyH_take (i := 4) (v := .int .i64 P.fin) rfl (by kernel_rfl) (by kernel_rfl) (by kernel_rfl) (fun _ _ _ h => h) (Or.inl ⟨by rfl, fun y hy => ?_⟩) hS0 ?_
  · obtain ⟨k0, k1, k2, k3, k4⟩ := hy
    go_simp
  refine wpAnyH_take (i := 5) (v := .int .i64 (P.fin + 1)) rfl (by kernel_rfl) (by kernel_rfl) (by kernel_rfl) (fun _ _ _ h => h) (Or.inl ⟨by rfl, fun y hy => ?_⟩) hS0 ?_
  · obtain ⟨k0, k1, k2, k3, k4⟩ := hy
    go_simp
    exact wrapIn (by omega) (by omega)
  refine wpAnyH_take (i := 7) (v := .pointer (some ⟨w.heap.size + 1, 0, none⟩)) rfl (by kernel_rfl) (by kernel_rfl) (by kernel_rfl) (fun _ _ _ h => h) (Or.inl ⟨by rfl, fun y hy => ?_⟩) hS0 ?_
  · obtain ⟨k0, k1, k2, k3, k4⟩ := hy
    go_simp
  refine wpAnyH_take (i := 11) (v := .pointer (some ⟨w.heap.size + 1, 0, none⟩)) rfl (by kernel_rfl) (by kernel_rfl) (by kernel_rfl) (fun _ _ _ h => h) (Or.inl ⟨by rfl, fun y hy => ?_⟩) hS0 ?_
  · obtain ⟨k0, k1, k2, k3, k4⟩ := hy
    go_simp
  refine wpAnyH_one (i := 6) rfl (by kernel_rfl) (fun K hK => ?_)
  refine step_two rfl 44 (.tmp 19) (.tmp 22) _ rfl (.pointer (some ⟨w.heap.size + 1, 0, none⟩)) (.int .i64 (P.fin + 1)) (by simp [Act.eval, Act.put]) (by simp [Act.eval, Act.put]) eW.out (HWI.out _ _ (P.fin + 1) H2d.out (by omega) (by omega) (by omega)) ?_
  rintro e w3 ⟨rfl, h3⟩
  have H3 : Hid (DR w w3 (w.heap.size + 1) Pb a cap C (.slice av P.np cv) (.slice au P.nz cu) P.np P.nz (pairs P.L P.B P.np) (triples P.F P.T P.S P.nz) P.train P.fin P.delay (C.wideCur c2)) := h3
  clear hS0
  have hS0 : (fun y : World => Cells5 y Pb (.slice av P.np cv) (.slice au P.nz cu) P.train P.fin P.delay) w3 := cells5_of H3.out.2.1
  refine ⟨_, rfl, hK _ _ hS0 ?_⟩
  clear hK K H2d h3
  have hwx := Txt.wideVal_bounds (C := C) (c := c2) (n := P.fin + 1) (by omega)
  have hc3 := C.wideCur_pos c2
  generalize C.wideVal c2 (P.fin + 1) = wx at *
  generalize C.wideCur c2 = c3 at *
  refine wpAnyH_one (i := 8) rfl (by kernel_rfl) (fun K hK => ?_)
  refine step_two rfl 43 (.tmp 24) (.const (.int .i64 4)) _ rfl (.pointer (some ⟨w.heap.size + 1, 0, none⟩)) (.int .i64 4) (by simp [Act.eval, Act.put]) (by simp [Act.eval]) eP.out (HP.out _ _ 4 H3.out (by omega) (by omega)) ?_
  rintro e w4 ⟨rfl, h4⟩
  have H4 : Hid (DR w w4 (w.heap.size + 1) Pb a cap C (.slice av P.np cv) (.slice au P.nz cu) P.np P.nz (pairs P.L P.B P.np) (triples P.F P.T P.S P.nz) P.train P.fin P.delay (C.pickCur c3 4)) := h4
  clear hS0
  have hS0 : (fun y : World => Cells5 y Pb (.slice av P.np cv) (.slice au P.nz cu) P.train P.fin P.delay) w4 := cells5_of H4.out.2.1
  refine ⟨_, rfl, hK _ _ hS0 ?_⟩
  clear hK K H3 h4
  have hp4 := Txt.pickVal_bounds HC.out (c := c3) (by omega) (n := 4) (by omega)
  have hc4 := C.pickCur_pos c3 4
  generalize C.pickVal c3 4 = q4 at *
  generalize C.pickCur c3 4 = c4 at *
  have hq0 : ¬ (1 + q4 = 0) := by omega
  have hdv : 0 ≤ wx.tdiv (1 + q4) ∧ wx.tdiv (1 + q4) ≤ wx := by
    rw [Int.tdiv_eq_ediv_of_nonneg (by omega)]
    exact ⟨Int.ediv_nonneg (by omega) (by omega), Int.ediv_le_self _ (by omega)⟩
  refine wpAnyH_take (i := 9) (v := .int .i64 (1 + q4)) rfl (by kernel_rfl) (by kernel_rfl) (by kernel_rfl) (fun _ _ _ h => h) (Or.inl ⟨by rfl, fun y hy => ?_⟩) hS0 ?_
  · obtain ⟨k0, k1, k2, k3, k4⟩ := hy
    go_simp
    exact wrapIn (by omega) (by omega)
  refine wpAnyH_take (i := 10) (v := .int .i64 (wx.tdiv (1 + q4))) rfl (by kernel_rfl) (by kernel_rfl) (by kernel_rfl) (fun _ _ _ h => h) (Or.inl ⟨by rfl, fun y hy => ?_⟩) hS0 ?_
  · obtain ⟨k0, k1, k2, k3, k4⟩ := hy
    go_simp
    exact wrapIn (by omega) (by omega)
  generalize wx.tdiv (1 + q4) = sx at *
  refine wpAnyH_one (i := 12) rfl (by kernel_rfl) (fun K hK => ?_)
  refine step_two rfl 43 (.tmp 28) (.const (.int .i64 9)) _ rfl (.pointer (some ⟨w.heap.size + 1, 0, none⟩)) (.int .i64 9) (by simp [Act.eval, Act.put]) (by simp [Act.eval]) eP.out (HP.out _ _ 9 H4.out (by omega) (by omega)) ?_
  rintro e w5 ⟨rfl, h5⟩
  have H5 : Hid (DR w w5 (w.heap.size + 1) Pb a cap C (.slice av P.np cv) (.slice au P.nz cu) P.np P.nz (pairs P.L P.B P.np) (triples P.F P.T P.S P.nz) P.train P.fin P.delay (C.pickCur c4 9)) := h5
  clear hS0
  have hS0 : (fun y : World => Cells5 y Pb (.slice av P.np cv) (.slice au P.nz cu) P.train P.fin P.delay) w5 := cells5_of H5.out.2.1
  refine ⟨_, rfl, hK _ _ hS0 ?_⟩
  clear hK K H4 h5
  have hp9 := Txt.pickVal_bounds HC.out (c := c4) (by omega) (n := 9) (by omega)
  generalize C.pickVal c4 9 = sh at *
  generalize C.pickCur c4 9 = c5 at *
  have HB : Hid ((1 ≤ 1 + ac ∧ 1 + ac ≤ 9) ∧ (0 ≤ sx ∧ sx ≤ P.fin) ∧ (0 ≤ sh ∧ sh ≤ 8)) := ⟨by omega, by omega, by omega⟩
  have hne5 : ¬ (Pb = w.heap.size) := by omega
  clear hc2 hc3 hc4 hp4 hp9 hwx hdv hq0 hpa hfin htot HP HWI eW eP p0 p1 s1 sW
  refine wpAnyH_one (i := 13) rfl (by kernel_rfl) (fun K hK => ?_)
  have y0 : w5.cell? ⟨w.heap.size, 0, none⟩ = some nilS := H5.out.1.cell (i := 0) (by omega)
  have y1 : w5.cell? ⟨w.heap.size, 1, none⟩ = some nilS := H5.out.1.cell (i := 1) (by omega)
  have y2 : w5.cell? ⟨w.heap.size, 2, none⟩ = some (.int .i64 0) := H5.out.1.cell (i := 2) (by omega)
  have y3 : w5.cell? ⟨w.heap.size, 3, none⟩ = some (.int .i64 0) := H5.out.1.cell (i := 3) (by omega)
  have y4 : w5.cell? ⟨w.heap.size, 4, none⟩ = some (.int .i64 0) := H5.out.1.cell (i := 4) (by omega)
  have yf := H5.out.1.frozen
  clear hS0
  go_simp
  obtain ⟨W6, hW6⟩ : ∃ W6, ((((w5.setCell ⟨w.heap.size, 0, none⟩ (.slice av P.np cv)).setCell ⟨w.heap.size, 1, none⟩ (.slice au P.nz cu)).setCell ⟨w.heap.size, 2, none⟩ (.int .i64 P.train)).setCell ⟨w.heap.size, 3, none⟩ (.int .i64 P.fin)).setCell ⟨w.heap.size, 4, none⟩ (.int .i64 P.delay) = W6 := ⟨_, rfl⟩
  rw [hW6]
  have HG : Hid (w5.grownBy W6 (some w.heap.size)) := by show World.grownBy _ _ _; rw [← hW6]; exact grown_tr (grown_tr (grown_tr (grown_tr (grown_set _ _ _ _) (grown_set _ _ _ _)) (grown_set _ _ _ _)) (grown_set _ _ _ _)) (grown_set _ _ _ _)
  have hS0 : (fun y : World => Cells5 y Pb (.slice av P.np cv) (.slice au P.nz cu) P.train P.fin P.delay) W6 := cells5_of (rowIs_grown H5.out.2.1 HG.out (fun e => hne5 (Option.some.inj e)))
  refine hK _ _ hS0 ?_
  clear hK K
  have HZ : Hid (Cells5 W6 w.heap.size (.slice av P.np cv) (.slice au P.nz cu) P.train P.fin P.delay) := by show Cells5 _ _ _ _ _ _ _; rw [← hW6]; clear hW6; exact ⟨by go_simp, by go_simp, by go_simp, by go_simp, by go_simp⟩
  clear hW6 y0 y1 y2 y3 y4 yf
  refine wpAnyH_one (i := 14) rfl (by kernel_rfl) (fun K hK => ?_)
  go_simp
  refine hK _ _ hS0 ?_
  clear hK K
  refine wpAnyH_one (i := 15) rfl (by kernel_rfl) (fun K hK => ?_)
  go_simp
  refine hK _ _ hS0 ?_
  clear hK K
  refine wpAnyH_one (i := 16) rfl (by kernel_rfl) (fun K hK => ?_)
  go_simp
  refine hK _ _ hS0 ?_
  clear hK K
  refine wpAnyH_done (by kernel_rfl) ?_ _
  clear hS0
  obtain ⟨z0, z1, z2, z3, z4⟩ := HZ.out
  go_wp2
  refine bodyPost_ret (v := .tuple #[.agg #[.slice av P.np cv, .slice au P.nz cu, .int .i64 P.train, .int .i64 P.fin, .int .i64 P.delay], .int .i64 (1 + ac), .int .i64 sx, .int .i64 sh]) (by simp [results, Try.results33, go_sem, *]) rfl ⟨P, _, _, 1 + ac, sx, sh, rfl, ?_⟩
  obtain ⟨o1, o2, o3, o4, o5, o6⟩ := H5.out
  exact ⟨ownsRow_base (owned_grown o3 HG.out (fun j e he => by have h1 := ownsRow_block o3 j he; have h2 := Option.some.inj e; omega)) (by omega), ownsRow_base (owned_grown o4 HG.out (fun j e he => by have h1 := ownsRow_block o4 j he; have h2 := Option.some.inj e; omega)) (by omega), ⟨HOK.out, HB.out⟩, below_grown (grown_new o6 HG.out (fun j e => by have h2 := Option.some.inj e; omega)) (by omega)⟩

theorem runsDrawn_any {w : World} {a : Option Addr} {len : Nat} (cap : Nat) (h : RowOk w a len) (hlen : len ≤ 1048576) :
    Calls Try.prog 33 #[.slice a len cap] w fun e w' => ∃ (P : Prof) (ap : Option Addr) (cp : Nat) (az : Option Addr) (cz : Nat) (acc x short : Int), e = .returned (.tuple #[.agg #[.slice ap P.np cp, .slice az P.nz cz, .int .i64 P.train, .int .i64 P.fin, .int .i64 P.delay], .int .i64 acc, .int .i64 x, .int .i64 short]) ∧ P.Lies w' (.agg #[.slice ap P.np cp, .slice az P.nz cz, .int .i64 P.train, .int .i64 P.fin, .int .i64 P.delay]) ∧ P.RunDrawn acc x short ∧ Below w.heap.size w w' := by
  obtain ⟨hm, hr⟩ := h
  obtain ⟨C, rfl, hC, hT⟩ : ∃ C : Txt, C.len = len ∧ C.Ok ∧ TxtIn w a C := by
    rcases hr with h0 | ⟨b, off, zs, rfl, hb, hl, hc, hw⟩
    · exact ⟨⟨len, fun _ => 0⟩, rfl, ⟨hlen, fun j hj => by have : j < len := hj; omega⟩, Or.inl h0⟩
    · refine ⟨⟨len, fun j => zs.getD j 0⟩, rfl, ⟨hlen, fun j hj => ?_⟩, Or.inr ⟨b, off, rfl, hb, fun j hj => hc j (by have : j < len := hj; omega)⟩⟩
      have hj' : j < zs.length := by have : j < len := hj; omega
      have e : zs.getD j 0 = zs[j] := by simp [List.getD, hj']
      show 0 ≤ zs.getD j 0 ∧ zs.getD j 0 ≤ 255
      rw [e]
      have := Go.bounds_u8 (hw _ (List.getElem_mem hj'))
      omega
  refine (runs_any C hC a cap w hT).mono ?_
  rintro e w2 ⟨P, v1, v2, acc, x, short, rfl, h1, h2, h3, h4⟩
  obtain ⟨ap, cp, rfl, p1, p2, _⟩ := owned_shape h1
  obtain ⟨az, cz, rfl, z1, z2, _⟩ := owned_shape h2
  exact ⟨P, ap, cp, az, cz, acc, x, short, rfl, ⟨ap, cp, az, cz, rfl, by omega, by omega, owned_row2 h1, owned_row3 h2⟩, h3, h4⟩

end Go.Proofs.Yteodefmpkljedaa
