/-
  The program's reader: the whole profile.
-/
import Derived.Test.YteodefmpkljedaaDoorImplRead4
import Derived.Test.YteodefmpkljedaaDoorSpecRead4
import Derived.Test.YteodefmpkljedaaDoorUntil
namespace Go.Proofs.YteodefmpkljedaaDoor
open Go.RowKit Go.Sort Go.Shelf
set_option linter.unusedVariables false
set_option linter.unusedSimpArgs false

/-- What holds while the program reads: the result's block, the reader's, the words, the profile's, the two rows. -/
def PR (w x : World) (B Ob Pb : Nat) (t : List UInt8) (i : Int) (sp sz : Value) (ps : List (Nat × Nat)) (zs : List (Nat × Nat × Nat)) (tr fi de : Int) : Prop :=
  (0 < B ∧ B < w.heap.size ∧ w.heap.size ≤ Ob ∧ Ob < Pb) ∧ x.rowIs Ob 26 5 (p5 nilS nilS 0 0 0) ∧ ReadAt x B t i ∧ WordsAt x ∧ x.rowIs Pb 26 5 (p5 sp sz tr fi de) ∧ x.ownsRow (Pb + 1) 46 2 sp ps.length (cellsP ps) ∧ x.ownsRow (Pb + 1) 49 3 sz zs.length (cellsZ zs) ∧ w.grownBy x (some B)
theorem PR.step {w x y : World} {B Ob Pb : Nat} {t : List UInt8} {i i' : Int} {sp sz : Value} {ps : List (Nat × Nat)} {zs : List (Nat × Nat × Nat)} {tr fi de : Int} (h : PR w x B Ob Pb t i sp sz ps zs tr fi de) (hg : x.grownBy y (some B)) (hr : ReadAt y B t i') : PR w y B Ob Pb t i' sp sz ps zs tr fi de := by
  obtain ⟨⟨h0, h1, h2, h3⟩, o1, o2, o3, o4, o5, o6, o7⟩ := h
  exact ⟨⟨h0, h1, h2, h3⟩, rowIs_grown o1 hg (by simp; omega), hr, o3.grown hg (fun k e => by have := Option.some.inj e; omega), rowIs_grown o4 hg (by simp; omega), owned_grown o5 hg (fun j e he => by have := ownsRow_block o5 j he; have := Option.some.inj e; omega), owned_grown o6 hg (fun j e he => by have := ownsRow_block o6 j he; have := Option.some.inj e; omega), grown_tr o7 hg⟩
theorem PR.free {w x y : World} {B Ob Pb : Nat} {t : List UInt8} {i : Int} {sp sz : Value} {ps : List (Nat × Nat)} {zs : List (Nat × Nat × Nat)} {tr fi de : Int} (h : PR w x B Ob Pb t i sp sz ps zs tr fi de) (hg : x.grownBy y none) : PR w y B Ob Pb t i sp sz ps zs tr fi de := by
  obtain ⟨h0, o1, o2, o3, o4, o5, o6, o7⟩ := h
  exact ⟨h0, rowIs_grown o1 hg (by simp), rowIs_grown o2 hg (by simp), o3.grown hg (fun k e => by cases e), rowIs_grown o4 hg (by simp), owned_grown o5 hg (fun j e he => by cases e), owned_grown o6 hg (fun j e he => by cases e), grown_new o7 hg (fun k e => by cases e)⟩
theorem PR.piece {w x y : World} {B Ob Pb : Nat} {t : List UInt8} {i : Int} {sp sz sp' : Value} {ps : List (Nat × Nat)} {zs : List (Nat × Nat × Nat)} {tr fi de : Int} (h : PR w x B Ob Pb t i sp sz ps zs tr fi de) (l c : Nat) (hg : x.grownBy y sp.ownBlock) (ho : y.ownsRow (Pb + 1) 46 2 sp' (ps.length + 1) (cellsP ps ++ [.int .i64 (l : Int), .int .i64 (c : Int)])) :
    y.rowIs Pb 26 5 (p5 sp sz tr fi de) ∧ PR w (y.setCell ⟨Pb, 0, none⟩ sp') B Ob Pb t i sp' sz (ps ++ [(l, c)]) zs tr fi de := by
  obtain ⟨⟨h0, h1, h2, h3⟩, o1, o2, o3, o4, o5, o6, o7⟩ := h
  have hob := ownsRow_block o5
  have hne := own_ne o6 o5 (by decide)
  have p1 := rowIs_grown o1 hg (fun e => by have := hob _ e.symm; omega)
  have p2 : ReadAt y B t i := rowIs_grown o2 hg (fun e => by have := hob _ e.symm; omega)
  have p3 := o3.grown hg (fun k e => by have := hob _ e; omega)
  have p4 := rowIs_grown o4 hg (fun e => by have := hob _ e.symm; omega)
  have qo6 := owned_grown o6 hg (fun j e he => hne j e he)
  have p7 := grown_new o7 hg (fun k e => by have := hob _ e; omega)
  have gs := grown_set y Pb 0 sp'
  refine ⟨p4, ⟨h0, h1, h2, h3⟩, p1.setOther (by simp; omega) _, p2.setOther (by simp; omega) _, p3.grown gs (fun k e => by have := Option.some.inj e; omega), ?_, ?_, owned_grown qo6 gs (fun j e he => by have h1 := ownsRow_block qo6 j he; have h2 := Option.some.inj e; omega), grown_new p7 gs (fun k e => by have := Option.some.inj e; omega)⟩
  · refine (p4.set 0 _).congr fun k hk => ?_
    match k, hk with
    | 0, _ => rfl
    | 1, _ => rfl
    | 2, _ => rfl
    | 3, _ => rfl
    | 4, _ => rfl
  · rw [cellsP_app, List.length_append, List.length_singleton]
    exact owned_grown ho gs (fun j e he => by have h1 := ownsRow_block ho j he; have h2 := Option.some.inj e; omega)
theorem PR.zone {w x y : World} {B Ob Pb : Nat} {t : List UInt8} {i : Int} {sp sz sz' : Value} {ps : List (Nat × Nat)} {zs : List (Nat × Nat × Nat)} {tr fi de : Int} (h : PR w x B Ob Pb t i sp sz ps zs tr fi de) (l c d : Nat) (hg : x.grownBy y sz.ownBlock) (ho : y.ownsRow (Pb + 1) 49 3 sz' (zs.length + 1) (cellsZ zs ++ [.int .i64 (l : Int), .int .i64 (c : Int), .int .i64 (d : Int)])) :
    y.rowIs Pb 26 5 (p5 sp sz tr fi de) ∧ PR w (y.setCell ⟨Pb, 1, none⟩ sz') B Ob Pb t i sp sz' ps (zs ++ [(l, c, d)]) tr fi de := by
  obtain ⟨⟨h0, h1, h2, h3⟩, o1, o2, o3, o4, o5, o6, o7⟩ := h
  have hob := ownsRow_block o6
  have hne := own_ne o5 o6 (by decide)
  have p1 := rowIs_grown o1 hg (fun e => by have := hob _ e.symm; omega)
  have p2 : ReadAt y B t i := rowIs_grown o2 hg (fun e => by have := hob _ e.symm; omega)
  have p3 := o3.grown hg (fun k e => by have := hob _ e; omega)
  have p4 := rowIs_grown o4 hg (fun e => by have := hob _ e.symm; omega)
  have qo5 := owned_grown o5 hg (fun j e he => hne j e he)
  have p7 := grown_new o7 hg (fun k e => by have := hob _ e; omega)
  have gs := grown_set y Pb 1 sz'
  refine ⟨p4, ⟨h0, h1, h2, h3⟩, p1.setOther (by simp; omega) _, p2.setOther (by simp; omega) _, p3.grown gs (fun k e => by have := Option.some.inj e; omega), ?_, owned_grown qo5 gs (fun j e he => by have h1 := ownsRow_block qo5 j he; have h2 := Option.some.inj e; omega), ?_, grown_new p7 gs (fun k e => by have := Option.some.inj e; omega)⟩
  · refine (p4.set 1 _).congr fun k hk => ?_
    match k, hk with
    | 0, _ => rfl
    | 1, _ => rfl
    | 2, _ => rfl
    | 3, _ => rfl
    | 4, _ => rfl
  · rw [cellsZ_app, List.length_append, List.length_singleton]
    exact owned_grown ho gs (fun j e he => by have h1 := ownsRow_block ho j he; have h2 := Option.some.inj e; omega)
theorem PR.set {w x : World} {B Ob Pb : Nat} {t : List UInt8} {i : Int} {sp sz : Value} {ps : List (Nat × Nat)} {zs : List (Nat × Nat × Nat)} {tr fi de tr' fi' de' : Int} (h : PR w x B Ob Pb t i sp sz ps zs tr fi de) (k : Nat) (z : Int) (hp : ∀ j, j < 5 → (if j = k then Value.int .i64 z else p5 sp sz tr fi de j) = p5 sp sz tr' fi' de' j) : PR w (x.setCell ⟨Pb, k, none⟩ (.int .i64 z)) B Ob Pb t i sp sz ps zs tr' fi' de' := by
  obtain ⟨⟨h0, h1, h2, h3⟩, o1, o2, o3, o4, o5, o6, o7⟩ := h
  have gs := grown_set x Pb k (.int .i64 z)
  exact ⟨⟨h0, h1, h2, h3⟩, o1.setOther (by simp; omega) _, o2.setOther (by simp; omega) _, o3.grown gs (fun k e => by have := Option.some.inj e; omega), (o4.set k _).congr fun j hj => hp j hj, owned_grown o5 gs (fun j e he => by have h1 := ownsRow_block o5 j he; have h2 := Option.some.inj e; omega), owned_grown o6 gs (fun j e he => by have h1 := ownsRow_block o6 j he; have h2 := Option.some.inj e; omega), grown_new o7 gs (fun k e => by have := Option.some.inj e; omega)⟩
/-- A call of one argument that may leave by a panic, taken by hand. -/
theorem step_oneP {P : Program} {ops : Array Oper} {o : Oper} {a : Act} {w : World} {K : Act → World → Prop} {Q : Exit → Act → World → Prop} {E : Prop}
    (hg : o.guard = none) (f : Nat) (s : Operand) (ts : Array TypeId) (hop : o.op = Op.call { callee := Callee.value (Operand.func f), args := #[s], argTypes := ts })
    (u1 : Value) (hs : a.eval s = u1) (eg : ∀ args w, (callFunc f args).run P w = .ok (.enter f args) w) {R : Ending → World → Prop} (hc : Calls P f #[u1] w R)
    (hK : ∀ e w', R e w' → (∃ v, e = .returned v ∧ K (a.put o.dst v) w') ∨ (∃ c, e = .panicked c ∧ Q (.panic c) a w')) :
    if Region.wanted o (yielded ops a.tmps) = true then Oper.wp P o a w K Q else E := by
  have hw : Region.wanted o (yielded ops a.tmps) = true := by simp [Region.wanted, hg]
  rw [if_pos hw]
  have hrun : (execOp a.eval o).run P w = .ok (.enter f #[u1]) w := by
    have hf : a.eval (Operand.func f) = .func (.func f) #[] #[] := rfl
    simp [execOp, hop, resolve, invoke, hs, hf, eg, Result.andThen, Deferred.ofValue]
  unfold Oper.wp
  rw [hrun]
  refine Calls.mono hc fun e w' h => ?_
  rcases hK e w' h with ⟨v, rfl, hk⟩ | ⟨c, rfl, hk⟩
  · exact hk
  · exact hk
theorem rgo_0 (f : Nat) (ps : List (Nat × Nat)) (zs : List (Nat × Nat × Nat)) (r : List UInt8) : rgo (f + 1) 0 ps zs r = (rbind rnum fun x0 => rbind (rword [1]) fun _ => rbind rnum fun x1 => rbind (rword [7]) fun _ => (fun p : Nat × Nat => rbind (rword [0, 2, 4]) fun w' => rgo f w' (ps ++ [p]) zs) (x0, x1)) r := by rw [rgo, if_pos rfl]; rfl
theorem rgo_2 (f : Nat) (ps : List (Nat × Nat)) (zs : List (Nat × Nat × Nat)) (r : List UInt8) : rgo (f + 1) 2 ps zs r = (rbind rnum fun x0 => rbind (rword [3]) fun _ => rbind rnum fun x1 => rbind (rword [3]) fun _ => rbind rnum fun x2 => rbind (rword [7]) fun _ => (fun p : Nat × Nat × Nat => rbind (rword [2, 4]) fun w' => rgo f w' ps (zs ++ [p])) (x0, x1, x2)) r := by rw [rgo, if_neg (by omega), if_pos rfl]; rfl
theorem rgo_4 (f : Nat) (ps : List (Nat × Nat)) (zs : List (Nat × Nat × Nat)) (r : List UInt8) : rgo (f + 1) 4 ps zs r = (rbind rnum fun x0 => rbind (rword [5]) fun _ => rbind rnum fun x1 => rbind (rword [6]) fun _ => rbind rnum fun x2 => rbind (rword [7]) fun _ => rended ⟨ps, zs, x0, x1, x2⟩) r := by rw [rgo, if_neg (by omega), if_neg (by omega)]; rfl
def atI (w : World) (B : Nat) : Nat := match w.cell? ⟨B, 1, none⟩ with | some (.int _ i) => i.toNat | _ => 0
theorem ReadAt.atI {w : World} {B : Nat} {t : List UInt8} {i : Int} (h : ReadAt w B t i) : Go.Proofs.YteodefmpkljedaaDoor.atI w B = i.toNat := by unfold Go.Proofs.YteodefmpkljedaaDoor.atI; rw [h.c1]
/-- What the reading of a whole profile comes to. -/
def ProfI (X : Rd Got) (base : Nat) (e : Ending) (w' : World) : Prop :=
  (∃ (g : Got) (n : Nat) (sp sz : Value), X = Rd.ok g n ∧ g.ps.length ≤ 3000 ∧ g.zs.length ≤ 3000 ∧ e = .returned (.agg #[sp, sz, .int .i64 (g.t : Int), .int .i64 (g.e : Int), .int .i64 (g.d : Int)]) ∧ w'.ownsRow base 46 2 sp g.ps.length (cellsP g.ps) ∧ w'.ownsRow base 49 3 sz g.zs.length (cellsZ g.zs)) ∨ (∃ m : Nat, X = Rd.bad m ∧ e = .panicked (left_ m))
theorem loadPR {x : World} {Pb : Nat} {sp sz : Value} {tr fi de : Int} (h : x.rowIs Pb 26 5 (p5 sp sz tr fi de)) : x.cell? ⟨Pb, 0, none⟩ = some sp ∧ x.cell? ⟨Pb, 1, none⟩ = some sz ∧ x.cell? ⟨Pb, 2, none⟩ = some (.int .i64 tr) ∧ x.cell? ⟨Pb, 3, none⟩ = some (.int .i64 fi) ∧ x.cell? ⟨Pb, 4, none⟩ = some (.int .i64 de) := ⟨h.cell (i := 0) (by omega), h.cell (i := 1) (by omega), h.cell (i := 2) (by omega), h.cell (i := 3) (by omega), h.cell (i := 4) (by omega)⟩
theorem shift_id {α : Type} (x : Rd α) (r : List UInt8) : x = x.shift 0 := (Rd.shift_zero x).symm

set_option maxRecDepth 20000 in
set_option maxHeartbeats 32000000 in
theorem profile_I (t : List UInt8) (B : Nat) (w : World) (h : ReadAt w B t ((0 : Nat) : Int)) (hw : WordsAt w) (hGB : 0 < B) (ht : t.length ≤ 3000) :
    Calls Tryd.prog 52 #[.pointer (some ⟨B, 0, none⟩)] w fun e w' => ProfI (rtext t) w.heap.size e w' ∧ w.grownBy w' (some B) := by
  obtain ⟨i0, hi, hz0, hz1, hz2⟩ := info_parts Tryd.infoPieceD
  obtain ⟨j0, hj, jz0, jz1, jz2⟩ := info_parts Tryd.infoZoneD
  have HX0 : Hid (rtext t = (rbind (rword [0]) (fun w => rgo (t.length + 1) w [] []) (t.drop 0)).shift 0) := by rw [List.drop_zero, Rd.shift_zero]; rfl
  obtain ⟨X, hX⟩ : ∃ X, rtext t = X := ⟨_, rfl⟩
  rw [hX] at HX0 ⊢
  have HR : Hid (ReadAt w B t ((0 : Nat) : Int)) := h
  have HW : Hid (WordsAt w) := hw
  have hBl : B < w.heap.size := h.lt
  clear h hw hX
  go_enter Tryd.func52, Tryd.ntmps52
  go_wp2_with fail
  obtain ⟨Ob, hOb⟩ : ∃ Ob, w.heap.size = Ob := ⟨_, rfl⟩
  obtain ⟨Pb, hPb⟩ : ∃ Pb, Ob + 1 = Pb := ⟨_, rfl⟩
  obtain ⟨G, hG⟩ : ∃ G, Pb + 1 = G := ⟨_, rfl⟩
  rw [hOb, hPb, hG]
  obtain ⟨W, hWE⟩ : ∃ W, (w.alloc (.cells #[nilS, nilS, .int .i64 0, .int .i64 0, .int .i64 0] 26)).alloc (.cells #[nilS, nilS, .int .i64 0, .int .i64 0, .int .i64 0] 26) = W := ⟨_, rfl⟩
  rw [hWE]
  have HS0 : Hid (PR w W B Ob Pb t ((0 : Nat) : Int) nilS nilS [] [] 0 0 0) := by
    have r1 := (World.rowIs_alloc w #[nilS, nilS, .int .i64 0, .int .i64 0, .int .i64 0] 26 (p5 nilS nilS 0 0 0) (fun i hi => by simp at hi; match i, hi with | 0, _ => rfl | 1, _ => rfl | 2, _ => rfl | 3, _ => rfl | 4, _ => rfl)).alloc (.cells #[nilS, nilS, .int .i64 0, .int .i64 0, .int .i64 0] 26)
    have r2 := World.rowIs_alloc (w.alloc (.cells #[nilS, nilS, .int .i64 0, .int .i64 0, .int .i64 0] 26)) #[nilS, nilS, .int .i64 0, .int .i64 0, .int .i64 0] 26 (p5 nilS nilS 0 0 0) (fun i hi => by simp at hi; match i, hi with | 0, _ => rfl | 1, _ => rfl | 2, _ => rfl | 3, _ => rfl | 4, _ => rfl)
    have g1 := World.grownBy_alloc w (.cells #[nilS, nilS, .int .i64 0, .int .i64 0, .int .i64 0] 26)
    have g2 := World.grownBy_alloc (w.alloc (.cells #[nilS, nilS, .int .i64 0, .int .i64 0, .int .i64 0] 26)) (.cells #[nilS, nilS, .int .i64 0, .int .i64 0, .int .i64 0] 26)
    rw [World.size_alloc, hOb, hPb, hWE] at r2
    rw [hOb, hWE] at r1
    rw [hWE] at g2
    exact ⟨⟨hGB, hBl, by omega, by omega⟩, r1, rowIs_grown (rowIs_grown HR.out (g1 none) (by simp)) (g2 none) (by simp), (HW.out.grown (g1 none) (fun k e => by cases e)).grown (g2 none) (fun k e => by cases e), r2, World.ownsRow_nil _ _ _ _, World.ownsRow_nil _ _ _ _, grown_tr (g1 _) (g2 _)⟩
  have hGs : W.heap.size = G := by rw [← hWE]; simp; omega
  rw [← hGs]
  have hOP : Ob < Pb := by omega
  have hBO : B < Ob := by omega
  have HOB : Hid (w.heap.size = Ob) := hOb
  clear hWE hOb hPb hG hGs HR HW
  obtain ⟨Wq, hWq⟩ : ∃ Wq, W.alloc (.cells #[.int .i64 0] 79) = Wq := ⟨_, rfl⟩
  rw [hWq]
  have HSq : Hid (PR w Wq B Ob Pb t (0 : Nat) nilS nilS [] [] 0 0 0) := by have := HS0.out.free (World.grownBy_alloc _ (.cells #[.int .i64 0] 79) none); rw [hWq] at this; exact this
  have HCq : Hid (∀ j x : Nat, ([0] : List Nat)[j]? = some x → Wq.cell? ⟨W.heap.size, j, none⟩ = some (.int .i64 x)) := by
    intro j x hx
    match j, hx with
    | 0, hx =>
      simp at hx
      subst hx hWq
      go_simp
  have hqB : W.heap.size ≠ B := by have := HS0.out.2.2.1.lt; omega
  clear hWq HS0
  refine (oneOf_O t [0] B (0 : Nat) _ 1 Wq HSq.out.2.2.1 HSq.out.2.2.2.1 hGB (Nat.zero_le _) ht (by simp) (by simp) hqB HCq.out).mono ?_
  rintro e w1 ⟨hc, hid, hg⟩
  rcases hc with ⟨wd, i1, le1, li1, rfl, hr, HK1⟩ | ⟨m, rfl, HK1⟩
  case inr =>
    clear hid
    go_wp2
    exact ⟨rfl, Or.inr ⟨m, HX0.out.trans (HK1.out _), rfl⟩, grown_tr HSq.out.2.2.2.2.2.2.2 hg⟩
  have HS1 : Hid (PR w w1 B Ob Pb t i1 nilS nilS [] [] 0 0 0) := HSq.out.step hg hr
  clear hr hg HSq HCq hqB
  have HX1 : Hid (X = (rgo (t.length + 1) wd [] [] (t.drop i1)).shift i1) := HX0.out.trans (HK1.out _)
  have hwd : wd = 0 := by
    obtain ⟨id, h1, h2⟩ := hid _ rfl
    simp at h1 h2
    omega
  subst hwd
  clear hid HX0 HK1
  go_wp2_with fail
  go_loopw [4] (fun sw wr => ∃ (wd i f : Nat) (ps : List (Nat × Nat)) (sp : Value), sw = .int .i64 wd ∧ (wd = 0 ∨ wd = 2 ∨ wd = 4) ∧ i ≤ t.length ∧ t.length < i + f ∧ ps.length ≤ i ∧ Hid (PR w wr B Ob Pb t i sp nilS ps [] 0 0 0) ∧ Hid (X = (rgo f wd ps [] (t.drop i)).shift i)) (fun _ wr => t.length - atI wr B)
  case atStart => exact ⟨0, i1, _, [], nilS, rfl, Or.inl rfl, li1, by omega, by simp, HS1.out, HX1.out⟩
  case round =>
    clear HS1 HX1 le1 li1
    obtain ⟨wd, i, f, ps, sp, rfl, hwd, hit, hif, hpi, HS, HX⟩ := hrel
    by_cases h0 : wd = 0
    · subst h0
      have HI0 : Hid (ReadAt wr B t i) := HS.out.2.2.1
      obtain ⟨f', hf'⟩ : ∃ f', f = f' + 1 := ⟨f - 1, by omega⟩
      rw [hf'] at HX
      have HO : Hid (wr.ownsRow (Pb + 1) 46 2 sp ps.length (cellsP ps)) := HS.out.2.2.2.2.2.1
      obtain ⟨av, cv, hsp, _, _, _⟩ := owned_shape HO.out
      have HSP : Hid (sp = .slice av ps.length cv) := hsp
      have HSd : Hid (PR w wr.drew B Ob Pb t i sp nilS ps [] 0 0 0) := HS.out.free (grown_one wr none)
      have hS0 : (fun y : World => y.cell? ⟨Pb, 0, none⟩ = some (.slice av ps.length cv)) wr.drew := by have := HSd.out.2.2.2.2.1.cell (i := 0) (by omega); rw [show p5 _ _ _ _ _ 0 = sp from rfl, hsp] at this; exact this
      have eF : Hid (∀ args w, (callFunc 59 args).run Tryd.prog w = .ok (.enter 59 args) w) := enters_of Tryd.func59 (by kernel_rfl) rfl
      clear hsp HO
      go_wp2_with fail
      refine wp_region_any (by kernel_rfl) (wpAnyU.any (S := (fun y : World => y.cell? ⟨Pb, 0, none⟩ = some (.slice av ps.length cv))) (m := 7) _ _ _ _ ?_)
      change wpAnyU _ _ _ _ _ _ 8 _ _ wr.drew
      refine wpAnyU_take (i := 0) (v := .pointer (some ⟨Pb, 0, none⟩)) rfl (by kernel_rfl) (by kernel_rfl) (by kernel_rfl) (by kernel_rfl) (fun _ _ _ h => h) (Or.inl ⟨by rfl, fun y hy => ?_⟩) hS0 ?_
      · go_simp
      refine wpAnyU_take (i := 1) (v := .slice av ps.length cv) rfl (by kernel_rfl) (by kernel_rfl) (by kernel_rfl) (by kernel_rfl) (fun _ _ _ h => h) (Or.inl ⟨by rfl, fun y hy => ?_⟩) hS0 ?_
      · go_simp
      refine wpAnyU_take (i := 2) (v := .pointer (some ⟨B, 0, none⟩)) rfl (by kernel_rfl) (by kernel_rfl) (by kernel_rfl) (by kernel_rfl) (fun _ _ _ h => h) (Or.inl ⟨by rfl, fun y hy => ?_⟩) hS0 ?_
      · go_simp
      refine wpAnyU_one (i := 3) rfl (by kernel_rfl) (fun K hK => ?_)
      refine step_oneP rfl 59 (.tmp 12) _ rfl (.pointer (some ⟨B, 0, none⟩)) (by simp [Act.eval, Act.put]) eF.out (restOfPiece_O t B i wr.drew HSd.out.2.2.1 HSd.out.2.2.2.1 hGB hit ht) ?_
      rintro e w4 ⟨hc, hg⟩
      rcases hc with ⟨x, i4, le4, li4, rfl, hr, HK⟩ | ⟨m, rfl, HK⟩
      case inr =>
        refine Or.inr ⟨_, rfl, ?_⟩
        have HXB : Hid (X = Rd.bad m) := by have := HX.out; rw [rgo_0] at this; exact this.trans (HK.out (fun p : Nat × Nat => rbind (rword [0, 2, 4]) fun w' => rgo f' w' (ps ++ [p]) []))
        have HGB : Hid (w.grownBy w4 (some B)) := grown_tr HSd.out.2.2.2.2.2.2.2 hg
        clear hK K hS0
        go_wp2
        exact ⟨rfl, Or.inr ⟨m, HXB.out, rfl⟩, HGB.out⟩
      have HS4 : Hid (PR w w4 B Ob Pb t i4 sp nilS ps [] 0 0 0) := HSd.out.step hg hr
      have HX4 : Hid (X = ((fun p : Nat × Nat => rbind (rword [0, 2, 4]) fun w' => rgo f' w' (ps ++ [p]) []) x (t.drop i4)).shift i4) := by have := HX.out; rw [rgo_0] at this; exact this.trans (HK.out (fun p : Nat × Nat => rbind (rword [0, 2, 4]) fun w' => rgo f' w' (ps ++ [p]) []))
      clear hS0
      have hS0 : (fun y : World => y.cell? ⟨Pb, 0, none⟩ = some (.slice av ps.length cv)) w4 := by have := HS4.out.2.2.2.2.1.cell (i := 0) (by omega); rw [show p5 _ _ _ _ _ 0 = sp from rfl, HSP.out] at this; exact this
      refine Or.inl ⟨_, rfl, hK _ _ (Or.inr hS0) ?_⟩
      clear hK K hr hg HK HSd HS HX
      refine wpAnyU_one (i := 4) rfl (by kernel_rfl) (fun K hK => ?_)
      go_simp
      obtain ⟨W8, hW8⟩ : ∃ W8, w4.alloc (.cells #[.int .i64 (x.1 : Int), .int .i64 (x.2 : Int)] 46) = W8 := ⟨_, rfl⟩
      have HS8 : Hid (PR w W8 B Ob Pb t i4 sp nilS ps [] 0 0 0) := by have := HS4.out.free (World.grownBy_alloc _ (.cells #[.int .i64 (x.1 : Int), .int .i64 (x.2 : Int)] 46) none); rw [hW8] at this; exact this
      have hn8 : ∀ j u, [.int .i64 (x.1 : Int), .int .i64 (x.2 : Int)][j]? = some u → W8.cell? ((⟨w4.heap.size, 0, none⟩ : Addr).add j) = some u := by
        intro j u hx
        match j, hx with
        | 0, hx => simp at hx; subst hx hW8; simp [Addr.add]
        | 1, hx => simp at hx; subst hx hW8; simp [Addr.add]
      rw [hW8]
      have l4 : Pb < w4.heap.size := HS4.out.2.2.2.2.1.lt
      have l8 : Pb < W8.heap.size := HS8.out.2.2.2.2.1.lt
      clear hS0 hW8 HS4
      have hS0 : (fun y : World => y.cell? ⟨Pb, 0, none⟩ = some (.slice av ps.length cv)) W8 := by have := HS8.out.2.2.2.2.1.cell (i := 0) (by omega); rw [show p5 _ _ _ _ _ 0 = sp from rfl, HSP.out] at this; exact this
      refine hK _ _ (Or.inr hS0) ?_
      clear hK K
      refine wpAnyU_one (i := 5) rfl (by kernel_rfl) (fun K hK => ?_)
      refine step_append_own rfl (.tmp 11) (.tmp 14) 23 rfl (Pb + 1) 46 i0 (.agg #[.int .i64 0, .int .i64 0]) 2 16 Tryd.underlying23 hi hz0 hz1 hz2 rfl (by decide) (.slice av ps.length cv) ps.length _ (by simp [Act.eval, Act.put]) (by have := HS8.out.2.2.2.2.2.1; rw [HSP.out] at this; exact this) ⟨w4.heap.size, 0, none⟩ 1 1 [.int .i64 (x.1 : Int), .int .i64 (x.2 : Int)] (by simp [Act.eval, Act.put]) rfl hn8 (by intro u hu; simp at hu; rcases hu with rfl | rfl <;> rfl) (by unfold maxLen; omega) (by omega) (by omega) ?_
      intro v9 w9 hown9 hgrow9
      obtain ⟨a9, c9, rfl, _, _, _⟩ := owned_shape hown9
      obtain ⟨hp9, hd9⟩ := HS8.out.piece x.1 x.2 (by rw [HSP.out]; exact hgrow9) hown9
      have HS9 : Hid (PR w (w9.setCell ⟨Pb, 0, none⟩ (.slice a9 (ps.length + 1) c9)) B Ob Pb t i4 (.slice a9 (ps.length + 1) c9) nilS (ps ++ [x]) [] 0 0 0) := hd9
      clear hS0 hn8
      have hS0 : (fun y : World => y.cell? ⟨Pb, 0, none⟩ = some (.slice av ps.length cv)) w9 := by have := hp9.cell (i := 0) (by omega); rw [show p5 _ _ _ _ _ 0 = sp from rfl, HSP.out] at this; exact this
      have xf := hp9.frozen 0
      refine hK _ _ (Or.inr hS0) ?_
      clear hK K hown9 hgrow9 hd9 hp9 HS8
      refine wpAnyU_take (i := 6) (v := .pointer (some ⟨Pb, 0, none⟩)) rfl (by kernel_rfl) (by kernel_rfl) (by kernel_rfl) (by kernel_rfl) (fun _ _ _ h => h) (Or.inl ⟨by rfl, fun y hy => ?_⟩) hS0 ?_
      · go_simp
      refine wpAnyU_one (i := 7) rfl (by kernel_rfl) (fun K hK => ?_)
      have x1 : w9.cell? ⟨Pb, 0, none⟩ = some (.slice av ps.length cv) := hS0
      go_simp
      refine hK _ _ (Or.inl rfl) ?_
      clear hK K hS0 x1 xf l4 l8
      refine wpAnyU_done (by kernel_rfl) ?_ _
      obtain ⟨wf, hwf⟩ : ∃ wf, w9.setCell ⟨Pb, 0, none⟩ (.slice a9 (ps.length + 1) c9) = wf := ⟨_, rfl⟩
      rw [hwf] at HS9 ⊢
      clear hwf HSP eF
      go_wp2_with fail
      obtain ⟨Wq, hWq⟩ : ∃ Wq, wf.alloc (.cells #[.int .i64 0, .int .i64 2, .int .i64 4] 79) = Wq := ⟨_, rfl⟩
      rw [hWq]
      have HSq : Hid (PR w Wq B Ob Pb t i4 (.slice a9 (ps.length + 1) c9) nilS (ps ++ [x]) [] 0 0 0) := by have := HS9.out.free (World.grownBy_alloc _ (.cells #[.int .i64 0, .int .i64 2, .int .i64 4] 79) none); rw [hWq] at this; exact this
      have HCq : Hid (∀ j x : Nat, ([0, 2, 4] : List Nat)[j]? = some x → Wq.cell? ⟨wf.heap.size, j, none⟩ = some (.int .i64 x)) := by
        intro j x hx
        match j, hx with
        | 0, hx =>
          simp at hx
          subst hx hWq
          go_simp
        | 1, hx =>
          simp at hx
          subst hx hWq
          go_simp
        | 2, hx =>
          simp at hx
          subst hx hWq
          go_simp
      have hqB : wf.heap.size ≠ B := by have := HS9.out.2.2.1.lt; omega
      clear hWq HS9
      refine (oneOf_O t [0, 2, 4] B i4 _ 3 Wq HSq.out.2.2.1 HSq.out.2.2.2.1 hGB li4 ht (by simp) (by simp) hqB HCq.out).mono ?_
      rintro e w5 ⟨hc, hid, hg⟩
      rcases hc with ⟨wd2, i5, le5, li5, rfl, hr, HK5⟩ | ⟨m, rfl, HK5⟩
      case inr =>
        clear hid
        go_wp2
        exact ⟨rfl, Or.inr ⟨m, HX4.out.trans (HK5.out _), rfl⟩, grown_tr HSq.out.2.2.2.2.2.2.2 hg⟩
      have HS5 : Hid (PR w w5 B Ob Pb t i5 (.slice a9 (ps.length + 1) c9) nilS (ps ++ [x]) [] 0 0 0) := HSq.out.step hg hr
      clear hr hg HSq HCq hqB
      have HX5 : Hid (X = (rgo f' wd2 (ps ++ [x]) [] (t.drop i5)).shift i5) := HX4.out.trans (HK5.out _)
      have hwd2 : wd2 = 0 ∨ wd2 = 2 ∨ wd2 = 4 := by
        obtain ⟨id, h1, h2⟩ := hid _ rfl
        simp at h1 h2
        omega
      clear hid HX4 HK5
      go_wp2
      go_roundw
      case rel => exact ⟨wd2, i5, f', ps ++ [x], .slice a9 (ps.length + 1) c9, rfl, hwd2, li5, by omega, by rw [List.length_append, List.length_singleton]; omega, HS5.out, HX5.out⟩
      case measure =>
        rw [HS5.out.2.2.1.atI, HI0.out.atI]
        omega
    · have hw0 : ((wd : Int) == 0) = false := by simp; omega
      have hw0' : (wd == 0) = false := by simp; omega
      have hwd2 : wd = 2 ∨ wd = 4 := by omega
      clear hwd h0
      go_wp2_with fail
      go_loopw [4] (fun sw wr => ∃ (wd i f : Nat) (zs : List (Nat × Nat × Nat)) (sz : Value), sw = .int .i64 wd ∧ (wd = 2 ∨ wd = 4) ∧ i ≤ t.length ∧ t.length < i + f ∧ ps.length + zs.length ≤ i ∧ Hid (PR w wr B Ob Pb t i sp sz ps zs 0 0 0) ∧ Hid (X = (rgo f wd ps zs (t.drop i)).shift i)) (fun _ wr => t.length - atI wr B)
      case atStart => exact ⟨wd, i, f, [], nilS, rfl, hwd2, hit, hif, by simpa using hpi, HS.out, HX.out⟩
      case round =>
        clear HS HX hwd2 hif hit hpi hw0 hw0'
        obtain ⟨wd, i, f, zs, sz, rfl, hwd, hit, hif, hpi, HS, HX⟩ := hrel
        by_cases h2 : wd = 2
        · subst h2
          have HI0 : Hid (ReadAt wr B t i) := HS.out.2.2.1
          obtain ⟨f', hf'⟩ : ∃ f', f = f' + 1 := ⟨f - 1, by omega⟩
          rw [hf'] at HX
          have HO : Hid (wr.ownsRow (Pb + 1) 49 3 sz zs.length (cellsZ zs)) := HS.out.2.2.2.2.2.2.1
          obtain ⟨av, cv, hsp, _, _, _⟩ := owned_shape HO.out
          have HSP : Hid (sz = .slice av zs.length cv) := hsp
          have HSd : Hid (PR w wr.drew B Ob Pb t i sp sz ps zs 0 0 0) := HS.out.free (grown_one wr none)
          have hS0 : (fun y : World => y.cell? ⟨Pb, 1, none⟩ = some (.slice av zs.length cv)) wr.drew := by have := HSd.out.2.2.2.2.1.cell (i := 1) (by omega); rw [show p5 _ _ _ _ _ 1 = sz from rfl, hsp] at this; exact this
          have eF : Hid (∀ args w, (callFunc 60 args).run Tryd.prog w = .ok (.enter 60 args) w) := enters_of Tryd.func60 (by kernel_rfl) rfl
          clear hsp HO
          go_wp2_with fail
          refine wp_region_any (by kernel_rfl) (wpAnyU.any (S := (fun y : World => y.cell? ⟨Pb, 1, none⟩ = some (.slice av zs.length cv))) (m := 7) _ _ _ _ ?_)
          change wpAnyU _ _ _ _ _ _ 8 _ _ wr.drew
          refine wpAnyU_take (i := 0) (v := .pointer (some ⟨Pb, 1, none⟩)) rfl (by kernel_rfl) (by kernel_rfl) (by kernel_rfl) (by kernel_rfl) (fun _ _ _ h => h) (Or.inl ⟨by rfl, fun y hy => ?_⟩) hS0 ?_
          · go_simp
          refine wpAnyU_take (i := 1) (v := .slice av zs.length cv) rfl (by kernel_rfl) (by kernel_rfl) (by kernel_rfl) (by kernel_rfl) (fun _ _ _ h => h) (Or.inl ⟨by rfl, fun y hy => ?_⟩) hS0 ?_
          · go_simp
          refine wpAnyU_take (i := 2) (v := .pointer (some ⟨B, 0, none⟩)) rfl (by kernel_rfl) (by kernel_rfl) (by kernel_rfl) (by kernel_rfl) (fun _ _ _ h => h) (Or.inl ⟨by rfl, fun y hy => ?_⟩) hS0 ?_
          · go_simp
          refine wpAnyU_one (i := 3) rfl (by kernel_rfl) (fun K hK => ?_)
          refine step_oneP rfl 60 (.tmp 24) _ rfl (.pointer (some ⟨B, 0, none⟩)) (by simp [Act.eval, Act.put]) eF.out (restOfZone_O t B i wr.drew HSd.out.2.2.1 HSd.out.2.2.2.1 hGB hit ht) ?_
          rintro e w4 ⟨hc, hg⟩
          rcases hc with ⟨x, i4, le4, li4, rfl, hr, HK⟩ | ⟨m, rfl, HK⟩
          case inr =>
            refine Or.inr ⟨_, rfl, ?_⟩
            have HXB : Hid (X = Rd.bad m) := by have := HX.out; rw [rgo_2] at this; exact this.trans (HK.out (fun p : Nat × Nat × Nat => rbind (rword [2, 4]) fun w' => rgo f' w' ps (zs ++ [p])))
            have HGB : Hid (w.grownBy w4 (some B)) := grown_tr HSd.out.2.2.2.2.2.2.2 hg
            clear hK K hS0
            go_wp2
            exact ⟨rfl, Or.inr ⟨m, HXB.out, rfl⟩, HGB.out⟩
          have HS4 : Hid (PR w w4 B Ob Pb t i4 sp sz ps zs 0 0 0) := HSd.out.step hg hr
          have HX4 : Hid (X = ((fun p : Nat × Nat × Nat => rbind (rword [2, 4]) fun w' => rgo f' w' ps (zs ++ [p])) x (t.drop i4)).shift i4) := by have := HX.out; rw [rgo_2] at this; exact this.trans (HK.out (fun p : Nat × Nat × Nat => rbind (rword [2, 4]) fun w' => rgo f' w' ps (zs ++ [p])))
          clear hS0
          have hS0 : (fun y : World => y.cell? ⟨Pb, 1, none⟩ = some (.slice av zs.length cv)) w4 := by have := HS4.out.2.2.2.2.1.cell (i := 1) (by omega); rw [show p5 _ _ _ _ _ 1 = sz from rfl, HSP.out] at this; exact this
          refine Or.inl ⟨_, rfl, hK _ _ (Or.inr hS0) ?_⟩
          clear hK K hr hg HK HSd HS HX
          refine wpAnyU_one (i := 4) rfl (by kernel_rfl) (fun K hK => ?_)
          go_simp
          obtain ⟨W8, hW8⟩ : ∃ W8, w4.alloc (.cells #[.int .i64 (x.1 : Int), .int .i64 (x.2.1 : Int), .int .i64 (x.2.2 : Int)] 49) = W8 := ⟨_, rfl⟩
          have HS8 : Hid (PR w W8 B Ob Pb t i4 sp sz ps zs 0 0 0) := by have := HS4.out.free (World.grownBy_alloc _ (.cells #[.int .i64 (x.1 : Int), .int .i64 (x.2.1 : Int), .int .i64 (x.2.2 : Int)] 49) none); rw [hW8] at this; exact this
          have hn8 : ∀ j u, [.int .i64 (x.1 : Int), .int .i64 (x.2.1 : Int), .int .i64 (x.2.2 : Int)][j]? = some u → W8.cell? ((⟨w4.heap.size, 0, none⟩ : Addr).add j) = some u := by
            intro j u hx
            match j, hx with
            | 0, hx => simp at hx; subst hx hW8; simp [Addr.add]
            | 1, hx => simp at hx; subst hx hW8; simp [Addr.add]
            | 2, hx => simp at hx; subst hx hW8; simp [Addr.add]
          rw [hW8]
          have l4 : Pb < w4.heap.size := HS4.out.2.2.2.2.1.lt
          have l8 : Pb < W8.heap.size := HS8.out.2.2.2.2.1.lt
          clear hS0 hW8 HS4
          have hS0 : (fun y : World => y.cell? ⟨Pb, 1, none⟩ = some (.slice av zs.length cv)) W8 := by have := HS8.out.2.2.2.2.1.cell (i := 1) (by omega); rw [show p5 _ _ _ _ _ 1 = sz from rfl, HSP.out] at this; exact this
          refine hK _ _ (Or.inr hS0) ?_
          clear hK K
          refine wpAnyU_one (i := 5) rfl (by kernel_rfl) (fun K hK => ?_)
          refine step_append_own rfl (.tmp 23) (.tmp 26) 24 rfl (Pb + 1) 49 j0 (.agg #[.int .i64 0, .int .i64 0, .int .i64 0]) 3 24 Tryd.underlying24 hj jz0 jz1 jz2 rfl (by decide) (.slice av zs.length cv) zs.length _ (by simp [Act.eval, Act.put]) (by have := HS8.out.2.2.2.2.2.2.1; rw [HSP.out] at this; exact this) ⟨w4.heap.size, 0, none⟩ 1 1 [.int .i64 (x.1 : Int), .int .i64 (x.2.1 : Int), .int .i64 (x.2.2 : Int)] (by simp [Act.eval, Act.put]) rfl hn8 (by intro u hu; simp at hu; rcases hu with rfl | rfl | rfl <;> rfl) (by unfold maxLen; omega) (by omega) (by omega) ?_
          intro v9 w9 hown9 hgrow9
          obtain ⟨a9, c9, rfl, _, _, _⟩ := owned_shape hown9
          obtain ⟨hp9, hd9⟩ := HS8.out.zone x.1 x.2.1 x.2.2 (by rw [HSP.out]; exact hgrow9) hown9
          have HS9 : Hid (PR w (w9.setCell ⟨Pb, 1, none⟩ (.slice a9 (zs.length + 1) c9)) B Ob Pb t i4 sp (.slice a9 (zs.length + 1) c9) ps (zs ++ [x]) 0 0 0) := hd9
          clear hS0 hn8
          have hS0 : (fun y : World => y.cell? ⟨Pb, 1, none⟩ = some (.slice av zs.length cv)) w9 := by have := hp9.cell (i := 1) (by omega); rw [show p5 _ _ _ _ _ 1 = sz from rfl, HSP.out] at this; exact this
          have xf := hp9.frozen 1
          refine hK _ _ (Or.inr hS0) ?_
          clear hK K hown9 hgrow9 hd9 hp9 HS8
          refine wpAnyU_take (i := 6) (v := .pointer (some ⟨Pb, 1, none⟩)) rfl (by kernel_rfl) (by kernel_rfl) (by kernel_rfl) (by kernel_rfl) (fun _ _ _ h => h) (Or.inl ⟨by rfl, fun y hy => ?_⟩) hS0 ?_
          · go_simp
          refine wpAnyU_one (i := 7) rfl (by kernel_rfl) (fun K hK => ?_)
          have x1 : w9.cell? ⟨Pb, 1, none⟩ = some (.slice av zs.length cv) := hS0
          go_simp
          refine hK _ _ (Or.inl rfl) ?_
          clear hK K hS0 x1 xf l4 l8
          refine wpAnyU_done (by kernel_rfl) ?_ _
          obtain ⟨wf, hwf⟩ : ∃ wf, w9.setCell ⟨Pb, 1, none⟩ (.slice a9 (zs.length + 1) c9) = wf := ⟨_, rfl⟩
          rw [hwf] at HS9 ⊢
          clear hwf HSP eF
          go_wp2_with fail
          obtain ⟨Wq, hWq⟩ : ∃ Wq, wf.alloc (.cells #[.int .i64 2, .int .i64 4] 79) = Wq := ⟨_, rfl⟩
          rw [hWq]
          have HSq : Hid (PR w Wq B Ob Pb t i4 sp (.slice a9 (zs.length + 1) c9) ps (zs ++ [x]) 0 0 0) := by have := HS9.out.free (World.grownBy_alloc _ (.cells #[.int .i64 2, .int .i64 4] 79) none); rw [hWq] at this; exact this
          have HCq : Hid (∀ j x : Nat, ([2, 4] : List Nat)[j]? = some x → Wq.cell? ⟨wf.heap.size, j, none⟩ = some (.int .i64 x)) := by
            intro j x hx
            match j, hx with
            | 0, hx =>
              simp at hx
              subst hx hWq
              go_simp
            | 1, hx =>
              simp at hx
              subst hx hWq
              go_simp
          have hqB : wf.heap.size ≠ B := by have := HS9.out.2.2.1.lt; omega
          clear hWq HS9
          refine (oneOf_O t [2, 4] B i4 _ 2 Wq HSq.out.2.2.1 HSq.out.2.2.2.1 hGB li4 ht (by simp) (by simp) hqB HCq.out).mono ?_
          rintro e w5 ⟨hc, hid, hg⟩
          rcases hc with ⟨wd2, i5, le5, li5, rfl, hr, HK5⟩ | ⟨m, rfl, HK5⟩
          case inr =>
            clear hid
            go_wp2
            exact ⟨rfl, Or.inr ⟨m, HX4.out.trans (HK5.out _), rfl⟩, grown_tr HSq.out.2.2.2.2.2.2.2 hg⟩
          have HS5 : Hid (PR w w5 B Ob Pb t i5 sp (.slice a9 (zs.length + 1) c9) ps (zs ++ [x]) 0 0 0) := HSq.out.step hg hr
          clear hr hg HSq HCq hqB
          have HX5 : Hid (X = (rgo f' wd2 ps (zs ++ [x]) (t.drop i5)).shift i5) := HX4.out.trans (HK5.out _)
          have hwd2 : wd2 = 2 ∨ wd2 = 4 := by
            obtain ⟨id, h1, h2⟩ := hid _ rfl
            simp at h1 h2
            omega
          clear hid HX4 HK5
          go_wp2
          go_roundw
          case rel => exact ⟨wd2, i5, f', zs ++ [x], .slice a9 (zs.length + 1) c9, rfl, hwd2, li5, by omega, by rw [List.length_append, List.length_singleton]; omega, HS5.out, HX5.out⟩
          case measure =>
            rw [HS5.out.2.2.1.atI, HI0.out.atI]
            omega
        · have hw4 : wd = 4 := by omega
          subst hw4
          obtain ⟨f', hf'⟩ : ∃ f', f = f' + 1 := ⟨f - 1, by omega⟩
          rw [hf'] at HX
          have HX0 : Hid (X = ((rbind rnum fun x0 => rbind (rword [5]) fun _ => rbind rnum fun x1 => rbind (rword [6]) fun _ => rbind rnum fun x2 => rbind (rword [7]) fun _ => rended ⟨ps, zs, x0, x1, x2⟩) (t.drop i)).shift i) := by have := HX.out; rw [rgo_4] at this; exact this
          clear HX hif hf' h2 hwd
          go_wp2_with fail
          refine (number_O t B i wr HS.out.2.2.1 hit ht).mono ?_
          rintro e w1 ⟨hc, hg⟩
          rcases hc with ⟨x0, i1, li1, lii1, rfl, hr, HK⟩ | ⟨m, rfl, HK⟩
          case inr =>
            have HXB : Hid (X = Rd.bad m) := HX0.out.trans (HK.out _)
            have HGB : Hid (w.grownBy w1 (some B)) := grown_tr HS.out.2.2.2.2.2.2.2 hg
            go_wp2
            exact ⟨rfl, Or.inr ⟨m, HXB.out, rfl⟩, HGB.out⟩
          have HX1 : Hid _ := HX0.out.trans (HK.out _)
          have HSm : Hid (PR w w1 B Ob Pb t i1 sp sz ps zs 0 0 0) := HS.out.step hg hr
          have q0 := HSm.out.2.2.2.2.1.cell (i := 2) (by omega)
          have qf := HSm.out.2.2.2.2.1.frozen 2
          have HS1 : Hid (PR w (w1.setCell ⟨Pb, 2, none⟩ (.int .i64 (x0 : Int))) B Ob Pb t i1 sp sz ps zs x0 0 0) := HSm.out.set 2 (x0 : Int) (p5_cases rfl rfl rfl rfl rfl)
          clear hr hg HK HS HSm
          go_wp2_with fail
          clear q0 qf
          refine (behind_O t 5 B i1 _ HS1.out.2.2.1 HS1.out.2.2.2.1 hGB lii1 ht (by omega)).mono ?_
          rintro e w2 ⟨hc, hg⟩
          rcases hc with ⟨x1, i2, li2, lii2, rfl, hr, HK⟩ | ⟨m, rfl, HK⟩
          case inr =>
            have HXB : Hid (X = Rd.bad m) := HX1.out.trans (HK.out _)
            have HGB : Hid (w.grownBy w2 (some B)) := grown_tr HS1.out.2.2.2.2.2.2.2 hg
            go_wp2
            exact ⟨rfl, Or.inr ⟨m, HXB.out, rfl⟩, HGB.out⟩
          have HX2 : Hid _ := HX1.out.trans (HK.out _)
          clear HX1
          have HSm : Hid (PR w w2 B Ob Pb t i2 sp sz ps zs x0 0 0) := HS1.out.step hg hr
          have q0 := HSm.out.2.2.2.2.1.cell (i := 3) (by omega)
          have qf := HSm.out.2.2.2.2.1.frozen 3
          have HS2 : Hid (PR w (w2.setCell ⟨Pb, 3, none⟩ (.int .i64 (x1 : Int))) B Ob Pb t i2 sp sz ps zs x0 x1 0) := HSm.out.set 3 (x1 : Int) (p5_cases rfl rfl rfl rfl rfl)
          clear hr hg HK HS1 HSm
          go_wp2_with fail
          clear q0 qf
          refine (behind_O t 6 B i2 _ HS2.out.2.2.1 HS2.out.2.2.2.1 hGB lii2 ht (by omega)).mono ?_
          rintro e w3 ⟨hc, hg⟩
          rcases hc with ⟨x2, i3, li3, lii3, rfl, hr, HK⟩ | ⟨m, rfl, HK⟩
          case inr =>
            have HXB : Hid (X = Rd.bad m) := HX2.out.trans (HK.out _)
            have HGB : Hid (w.grownBy w3 (some B)) := grown_tr HS2.out.2.2.2.2.2.2.2 hg
            go_wp2
            exact ⟨rfl, Or.inr ⟨m, HXB.out, rfl⟩, HGB.out⟩
          have HX3 : Hid _ := HX2.out.trans (HK.out _)
          clear HX2
          have HSm : Hid (PR w w3 B Ob Pb t i3 sp sz ps zs x0 x1 0) := HS2.out.step hg hr
          have q0 := HSm.out.2.2.2.2.1.cell (i := 4) (by omega)
          have qf := HSm.out.2.2.2.2.1.frozen 4
          have HS3 : Hid (PR w (w3.setCell ⟨Pb, 4, none⟩ (.int .i64 (x2 : Int))) B Ob Pb t i3 sp sz ps zs x0 x1 x2) := HSm.out.set 4 (x2 : Int) (p5_cases rfl rfl rfl rfl rfl)
          clear hr hg HK HS2 HSm
          go_wp2_with fail
          clear q0 qf
          obtain ⟨W3, hW3⟩ : ∃ W3, w3.setCell ⟨Pb, 4, none⟩ (.int .i64 (x2 : Int)) = W3 := ⟨_, rfl⟩
          have hs3 : w3.heap.size = W3.heap.size := by rw [← hW3]; simp
          rw [hW3] at HS3 ⊢
          rw [hs3]
          clear hW3 hs3
          obtain ⟨Wq, hWq⟩ : ∃ Wq, W3.alloc (.cells #[.int .i64 7] 79) = Wq := ⟨_, rfl⟩
          rw [hWq]
          have HSq : Hid (PR w Wq B Ob Pb t i3 sp sz ps zs x0 x1 x2) := by have := HS3.out.free (World.grownBy_alloc _ (.cells #[.int .i64 7] 79) none); rw [hWq] at this; exact this
          have HCq : Hid (∀ j x : Nat, ([7] : List Nat)[j]? = some x → Wq.cell? ⟨W3.heap.size, j, none⟩ = some (.int .i64 x)) := by
            intro j x hx
            match j, hx with
            | 0, hx =>
              simp at hx
              subst hx hWq
              go_simp
          have hqB : W3.heap.size ≠ B := by have := HS3.out.2.2.1.lt; omega
          clear hWq HS3
          refine (oneOf_O t [7] B i3 _ 1 Wq HSq.out.2.2.1 HSq.out.2.2.2.1 hGB lii3 ht (by simp) (by simp) hqB HCq.out).mono ?_
          rintro e w4 ⟨hc, hid, hg⟩
          rcases hc with ⟨wq, i4, le4, li4, rfl, hr, HK4⟩ | ⟨m, rfl, HK4⟩
          case inr =>
            clear hid
            go_wp2
            exact ⟨rfl, Or.inr ⟨m, HX3.out.trans (HK4.out _), rfl⟩, grown_tr HSq.out.2.2.2.2.2.2.2 hg⟩
          have HS4 : Hid (PR w w4 B Ob Pb t i4 sp sz ps zs x0 x1 x2) := HSq.out.step hg hr
          clear hr hg HSq HCq hqB
          have HX4 : Hid (X = (rended ⟨ps, zs, x0, x1, x2⟩ (t.drop i4)).shift i4) := HX3.out.trans (HK4.out _)
          clear hid HX3 HK4
          have c0 := HS4.out.2.2.1.c0
          have c1 := HS4.out.2.2.1.c1
          by_cases hend : i4 < t.length
          · have hE : (i4 : Int) < (t.length : Int) := by omega
            have HXB : Hid (X = Rd.bad i4) := by
              rw [HX4.out]
              unfold rended
              rw [if_neg (by rw [List.length_drop]; omega)]
              rfl
            have HG4 : Hid (w.grownBy w4 (some B)) := HS4.out.2.2.2.2.2.2.2
            clear hend HX4 HS4
            go_wp2_with fail
            go_quiet (fail)
            go_wp2
            exact ⟨rfl, Or.inr ⟨i4, HXB.out, rfl⟩, grown_tr HG4.out (grown_drawn _ _ _)⟩
          · have hE : decide ((i4 : Int) < (t.length : Int)) = false := by simp; omega
            have hE' : decide (i4 < t.length) = false := by simp; omega
            have HXO : Hid (X = Rd.ok ⟨ps, zs, x0, x1, x2⟩ i4) := by
              rw [HX4.out]
              unfold rended
              rw [if_pos (by rw [List.length_drop]; omega)]
              rfl
            obtain ⟨p0, p1, p2, p3, p4⟩ := loadPR HS4.out.2.2.2.2.1
            have hps := HS4.out.2.2.2.2.2.1
            have hzs := HS4.out.2.2.2.2.2.2.1
            obtain ⟨av, cv, rfl, _, _, _⟩ := owned_shape hps
            obtain ⟨au, cu, rfl, _, _, _⟩ := owned_shape hzs
            have HPS : Hid (w4.ownsRow (Pb + 1) 46 2 (.slice av ps.length cv) ps.length (cellsP ps)) := hps
            have HZS : Hid (w4.ownsRow (Pb + 1) 49 3 (.slice au zs.length cu) zs.length (cellsZ zs)) := hzs
            have o0 := HS4.out.2.1.cell (i := 0) (by omega)
            have o1 := HS4.out.2.1.cell (i := 1) (by omega)
            have o2 := HS4.out.2.1.cell (i := 2) (by omega)
            have o3 := HS4.out.2.1.cell (i := 3) (by omega)
            have o4 := HS4.out.2.1.cell (i := 4) (by omega)
            have of := HS4.out.2.1.frozen
            have HG4 : Hid (w.grownBy w4 (some B)) := HS4.out.2.2.2.2.2.2.2
            have hOW : w.heap.size ≤ Ob := HS4.out.1.2.2.1
            have hlp : ps.length ≤ 3000 := by omega
            have hlz : zs.length ≤ 3000 := by omega
            have HG5 : Hid (∀ (n : Nat) v0 v1 v2 v3 v4, w4.grownBy ((((((w4.drewN n).setCell ⟨Ob, 0, none⟩ v0).setCell ⟨Ob, 1, none⟩ v1).setCell ⟨Ob, 2, none⟩ v2).setCell ⟨Ob, 3, none⟩ v3).setCell ⟨Ob, 4, none⟩ v4) (some Ob)) := fun n v0 v1 v2 v3 v4 => by
              iterate 5 refine grown_tr ?_ (grown_set _ _ _ _)
              exact grown_drawn _ _ _
            have HEND : Hid (∀ (n : Nat) v0 v1 v2 v3 v4, w.grownBy ((((((w4.drewN n).setCell ⟨Ob, 0, none⟩ v0).setCell ⟨Ob, 1, none⟩ v1).setCell ⟨Ob, 2, none⟩ v2).setCell ⟨Ob, 3, none⟩ v3).setCell ⟨Ob, 4, none⟩ v4) (some B)) := fun n v0 v1 v2 v3 v4 => grown_new HG4.out (HG5.out n v0 v1 v2 v3 v4) (fun k e => by have := Option.some.inj e; omega)
            clear hend HX4 HS4 hps hzs HOB
            go_wp2_with fail
            go_quiet (fail)
            go_wp2
            refine bodyPost_ret (v := .agg #[.slice av ps.length cv, .slice au zs.length cu, .int .i64 (x0 : Int), .int .i64 (x1 : Int), .int .i64 (x2 : Int)]) (by simp [results, Tryd.results52, go_sem, *]) rfl ⟨Or.inl ⟨⟨ps, zs, x0, x1, x2⟩, i4, .slice av ps.length cv, .slice au zs.length cu, HXO.out, hlp, hlz, rfl, ?_, ?_⟩, HEND.out _ _ _ _ _ _⟩
            · exact ownsRow_base (owned_grown HPS.out (HG5.out _ _ _ _ _ _) (fun j e he => by have h1 := ownsRow_block HPS.out j he; have h2 := Option.some.inj e; omega)) (by omega)
            · exact ownsRow_base (owned_grown HZS.out (HG5.out _ _ _ _ _ _) (fun j e he => by have h1 := ownsRow_block HZS.out j he; have h2 := Option.some.inj e; omega)) (by omega)

end Go.Proofs.YteodefmpkljedaaDoor
