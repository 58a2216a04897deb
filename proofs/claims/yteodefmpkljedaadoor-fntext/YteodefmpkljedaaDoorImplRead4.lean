/-
  The program's reader: numbers behind words, the rest of a piece and of a zone.
-/
import Derived.Test.YteodefmpkljedaaDoorImplRead3
namespace Go.Proofs.YteodefmpkljedaaDoor
open Go.RowKit Go.Sort Go.Shelf
set_option linter.unusedVariables false
set_option linter.unusedSimpArgs false

/-- What a part of the reader comes to: it goes on elsewhere, or leaves. -/
def Out {α : Type} (t : List UInt8) (i B : Nat) (M : (α → List UInt8 → Rd Got) → List UInt8 → Rd Got) (val : α → Value) (e : Ending) (w' : World) : Prop :=
  (∃ (a : α) (i' : Nat), i < i' ∧ i' ≤ t.length ∧ e = .returned (val a) ∧ ReadAt w' B t (i' : Int) ∧ Hid (∀ k, (M k (t.drop i)).shift i = (k a (t.drop i')).shift i')) ∨ (∃ m : Nat, e = .panicked (left_ m) ∧ Hid (∀ k, (M k (t.drop i)).shift i = Rd.bad m))
theorem stp_of {α : Type} {t : List UInt8} {i m : Nat} {M : List UInt8 → Rd α} {a : α} (h : M (t.drop i) = Rd.ok a m) (k : α → List UInt8 → Rd Got) : (rbind M k (t.drop i)).shift i = (k a (t.drop (i + m))).shift (i + m) := by rw [rbind_ok h, Rd.shift_shift, List.drop_drop]
theorem bad_of {α : Type} {t : List UInt8} {i m : Nat} {M : List UInt8 → Rd α} (h : M (t.drop i) = Rd.bad m) (k : α → List UInt8 → Rd Got) : (rbind M k (t.drop i)).shift i = Rd.bad (i + m) := by rw [rbind_bad h]; rfl
theorem number_O (t : List UInt8) (B i : Nat) (w : World) (h : ReadAt w B t i) (hi : i ≤ t.length) (ht : t.length ≤ 3000) :
    Calls Tryd.prog 61 #[.pointer (some ⟨B, 0, none⟩)] w fun e w' => Out t i B (fun k => rbind rnum k) (fun n : Nat => .int .i64 (n : Int)) e w' ∧ w.grownBy w' (some B) := by
  refine (number_any t B i w h hi ht).mono ?_
  rintro e w' ⟨hc, hg⟩
  refine ⟨?_, hg⟩
  rcases hc with ⟨n, m, h1, _, h3, rfl, h4⟩ | ⟨h1, rfl⟩
  · have hm : 1 ≤ m := by
      obtain ⟨d, y, _, hN, hd, _⟩ := num_inv h1
      rcases Nat.eq_zero_or_pos m with z | z
      · exact absurd (List.eq_nil_of_length_eq_zero (hd.trans z)) hN.1
      · exact z
    exact Or.inl ⟨n, i + m, by omega, h3, rfl, h4, fun k => stp_of h1 k⟩
  · exact Or.inr ⟨i, rfl, fun k => bad_of h1 k⟩
theorem oneOf_O (t : List UInt8) (ws : List Nat) (B i g cap : Nat) (w : World) (h : ReadAt w B t i) (hw : WordsAt w) (hGB : 0 < B) (hi : i ≤ t.length) (ht : t.length ≤ 3000) (hws : ws.length ≤ 3) (h8 : ∀ id ∈ ws, id < 8) (hgB : g ≠ B) (hl : ∀ j id : Nat, ws[j]? = some id → w.cell? ⟨g, j, none⟩ = some (.int .i64 id)) :
    Calls Tryd.prog 58 #[.pointer (some ⟨B, 0, none⟩), .slice (some ⟨g, 0, none⟩) ws.length cap] w fun e w' => Out t i B (fun k => rbind (rword ws) k) (fun n : Nat => .int .i64 (n : Int)) e w' ∧ (∀ v, e = .returned v → ∃ id ∈ ws, v = .int .i64 (id : Int)) ∧ w.grownBy w' (some B) := by
  refine (oneOf_any t ws B i g cap w h hw hGB hi ht hws h8 hgB hl).mono ?_
  rintro e w' ⟨hc, hg⟩
  rcases hc with ⟨n, m, h1, h3, rfl, h4⟩ | ⟨m, h1, rfl⟩
  · have hm : 1 ≤ m := by have := (wordFrom_inv 0 h1).2.1; have := wrd_le n; omega
    exact ⟨Or.inl ⟨n, i + m, by omega, h3, rfl, h4, fun k => stp_of h1 k⟩, fun v hv => ⟨n, (wordFrom_inv 0 h1).1, by cases hv; rfl⟩, hg⟩
  · exact ⟨Or.inr ⟨i + m, rfl, fun k => bad_of h1 k⟩, fun v hv => (by cases hv), hg⟩

set_option maxRecDepth 20000 in
set_option maxHeartbeats 2000000 in
theorem behind_O (t : List UInt8) (id B i : Nat) (w : World) (h : ReadAt w B t i) (hw : WordsAt w) (hGB : 0 < B) (hi : i ≤ t.length) (ht : t.length ≤ 3000) (h8 : id < 8) :
    Calls Tryd.prog 62 #[.pointer (some ⟨B, 0, none⟩), .int .i64 id] w fun e w' => Out t i B (fun k => rbind (rword [id]) fun _ => rbind rnum k) (fun n : Nat => .int .i64 (n : Int)) e w' ∧ w.grownBy w' (some B) := by
  have HR : Hid (ReadAt w B t i) := h
  have HW : Hid (WordsAt w) := hw
  have hBl : B < w.heap.size := h.lt
  clear h hw
  go_enter Tryd.func62, Tryd.ntmps62
  go_wp2_with fail
  obtain ⟨W, hWE⟩ : ∃ W, w.alloc (.cells #[.int .i64 id] 79) = W := ⟨_, rfl⟩
  rw [hWE]
  have gW : w.grownBy W none := by rw [← hWE]; exact World.grownBy_alloc _ _ _
  have HR1 : Hid (ReadAt W B t i) := rowIs_grown HR.out gW (by simp)
  have HW1 : Hid (WordsAt W) := HW.out.grown gW (fun k e => by cases e)
  have HC1 : Hid (∀ j x : Nat, [id][j]? = some x → W.cell? ⟨w.heap.size, j, none⟩ = some (.int .i64 x)) := by
    intro j x hx
    match j, hx with
    | 0, hx =>
      simp at hx
      subst hx hWE
      go_simp
  have HG : Hid (w.grownBy W none) := gW
  clear hWE gW
  refine (oneOf_O t [id] B i w.heap.size 1 W HR1.out HW1.out hGB hi ht (by simp) (by simpa using h8) (by omega) HC1.out).mono ?_
  rintro e w1 ⟨hc, _, hg⟩
  rcases hc with ⟨x, i1, le1, li1, rfl, hr1, HK⟩ | ⟨m, rfl, HK⟩
  · have HR2 : Hid (ReadAt w1 B t i1) := hr1
    have HG2 : Hid (w.grownBy w1 (some B)) := grown_tr (grown_new (World.grownBy.refl w (some B)) HG.out (fun j e => by cases e)) hg
    clear hr1 hg
    go_wp2_with fail
    refine (number_O t B i1 w1 HR2.out li1 ht).mono ?_
    rintro e w2 ⟨hc, hg⟩
    rcases hc with ⟨n, i2, le2, li2, rfl, hr2, HK2⟩ | ⟨m, rfl, HK2⟩
    · go_wp2
      go_ret
      exact ⟨Or.inl ⟨n, i2, by omega, li2, rfl, hr2, fun k => by rw [HK.out, HK2.out]⟩, grown_tr HG2.out hg⟩
    · go_wp2
      exact ⟨rfl, Or.inr ⟨m, rfl, fun k => by rw [HK.out, HK2.out]⟩, grown_tr HG2.out hg⟩
  · go_wp2
    exact ⟨rfl, Or.inr ⟨m, rfl, fun k => by rw [HK.out]⟩, grown_tr (grown_new (World.grownBy.refl w (some B)) HG.out (fun j e => by cases e)) hg⟩

def pc (a b : Int) (k : Nat) : Value := if k = 0 then .int .i64 a else .int .i64 b
def zc (a b c : Int) (k : Nat) : Value := if k = 0 then .int .i64 a else if k = 1 then .int .i64 b else .int .i64 c

set_option maxRecDepth 20000 in
set_option maxHeartbeats 4000000 in
theorem restOfPiece_O (t : List UInt8) (B i : Nat) (w : World) (h : ReadAt w B t i) (hw : WordsAt w) (hGB : 0 < B) (hi : i ≤ t.length) (ht : t.length ≤ 3000) :
    Calls Tryd.prog 59 #[.pointer (some ⟨B, 0, none⟩)] w fun e w' => Out t i B (fun k => rbind rnum fun x0 => rbind (rword [1]) fun _ => rbind rnum fun x1 => rbind (rword [7]) fun _ => k (x0, x1)) (fun p : Nat × Nat => .agg #[.int .i64 (p.1 : Int), .int .i64 (p.2 : Int)]) e w' ∧ w.grownBy w' (some B) := by
  have HR : Hid (ReadAt w B t i) := h
  have HW : Hid (WordsAt w) := hw
  have hBl : B < w.heap.size := h.lt
  clear h hw
  go_enter Tryd.func59, Tryd.ntmps59
  go_wp2_with fail
  obtain ⟨Ob, hOb⟩ : ∃ Ob, w.heap.size = Ob := ⟨_, rfl⟩
  obtain ⟨Pb, hPb⟩ : ∃ Pb, Ob + 1 = Pb := ⟨_, rfl⟩
  rw [hOb, hPb]
  obtain ⟨W, hWE⟩ : ∃ W, (w.alloc (.cells #[.int .i64 0, .int .i64 0] 46)).alloc (.cells #[.int .i64 0, .int .i64 0] 46) = W := ⟨_, rfl⟩
  rw [hWE]
  have HG0 : Hid (w.grownBy W (some B)) := by rw [← hWE]; exact grown_tr (World.grownBy_alloc _ _ _) (World.grownBy_alloc _ _ _)
  have HO0 : Hid (W.rowIs Ob 46 2 (pc 0 0)) := by
    have := (World.rowIs_alloc w #[.int .i64 0, .int .i64 0] 46 (pc 0 0) (fun i hi => by simp at hi; match i, hi with | 0, _ => rfl | 1, _ => rfl)).alloc (.cells #[.int .i64 0, .int .i64 0] 46)
    rw [hOb] at this
    rw [← hWE]; exact this
  have HP0 : Hid (W.rowIs Pb 46 2 (pc 0 0)) := by
    have := World.rowIs_alloc (w.alloc (.cells #[.int .i64 0, .int .i64 0] 46)) #[.int .i64 0, .int .i64 0] 46 (pc 0 0) (fun i hi => by simp at hi; match i, hi with | 0, _ => rfl | 1, _ => rfl)
    rw [World.size_alloc, hOb, hPb] at this
    rw [← hWE]; exact this
  have HR0 : Hid (ReadAt W B t i) := rowIs_grown (rowIs_grown HR.out (World.grownBy_alloc _ _ none) (by simp)) (by rw [← hWE]; exact World.grownBy_alloc _ _ none) (by simp)
  have HW0 : Hid (WordsAt W) := HW.out.grown HG0.out (fun k e => by have := Option.some.inj e; omega)
  have hBO : B < Ob := by omega
  have hOP : Ob < Pb := by omega
  have HOB : Hid (w.heap.size = Ob) := hOb
  clear hWE hOb hPb HR HW
  refine (number_O t B i W HR0.out hi ht).mono ?_
  rintro e w1 ⟨hc, hg⟩
  rcases hc with ⟨x0, i1, le1, li1, rfl, hr, HK1⟩ | ⟨m, rfl, HK1⟩
  case inr =>
    go_wp2
    exact ⟨rfl, Or.inr ⟨m, rfl, fun k => by rw [HK1.out]⟩, grown_tr HG0.out hg⟩
  have q0 := (rowIs_grown HP0.out hg (by simp; omega)).cell (i := 0) (by omega)
  have qf := (rowIs_grown HP0.out hg (by simp; omega)).frozen 0
  have HP1 : Hid ((w1.setCell ⟨Pb, 0, none⟩ (.int .i64 (x0 : Int))).rowIs Pb 46 2 (pc x0 0)) := ((rowIs_grown HP0.out hg (by simp; omega)).set 0 (.int .i64 (x0 : Int))).congr (fun k hk => match k, hk with | 0, _ => rfl | 1, _ => rfl)
  have HO1 : Hid ((w1.setCell ⟨Pb, 0, none⟩ (.int .i64 (x0 : Int))).rowIs Ob 46 2 (pc 0 0)) := (rowIs_grown HO0.out hg (by simp; omega)).setOther (by simp; omega) _
  have HR1 : Hid (ReadAt (w1.setCell ⟨Pb, 0, none⟩ (.int .i64 (x0 : Int))) B t i1) := hr.setOther (by simp; omega) _
  have HG1 : Hid (w.grownBy (w1.setCell ⟨Pb, 0, none⟩ (.int .i64 (x0 : Int))) (some B)) := grown_new (grown_tr HG0.out hg) (grown_set _ _ _ _) (fun k e => by have h1 := Option.some.inj e; have h2 := HOB.out; omega)
  have HW1 : Hid (WordsAt (w1.setCell ⟨Pb, 0, none⟩ (.int .i64 (x0 : Int)))) := (HW0.out.grown hg (fun k e => by have := Option.some.inj e; omega)).grown (grown_set _ _ _ _) (fun k e => by have := Option.some.inj e; omega)
  clear hr hg HR0 HW0 HG0 HO0 HP0
  go_wp2_with fail
  clear q0 qf
  refine (behind_O t 1 B i1 (w1.setCell ⟨Pb, 0, none⟩ (.int .i64 (x0 : Int))) HR1.out HW1.out hGB li1 ht (by omega)).mono ?_
  rintro e w2 ⟨hc, hg⟩
  rcases hc with ⟨x1, i2, le2, li2, rfl, hr, HK2⟩ | ⟨m, rfl, HK2⟩
  case inr =>
    go_wp2
    exact ⟨rfl, Or.inr ⟨m, rfl, fun k => by rw [HK1.out, HK2.out]⟩, grown_tr HG1.out hg⟩
  have q0 := (rowIs_grown HP1.out hg (by simp; omega)).cell (i := 1) (by omega)
  have qf := (rowIs_grown HP1.out hg (by simp; omega)).frozen 1
  have HP2 : Hid ((w2.setCell ⟨Pb, 1, none⟩ (.int .i64 (x1 : Int))).rowIs Pb 46 2 (pc x0 x1)) := ((rowIs_grown HP1.out hg (by simp; omega)).set 1 (.int .i64 (x1 : Int))).congr (fun k hk => match k, hk with | 0, _ => rfl | 1, _ => rfl)
  have HO2 : Hid ((w2.setCell ⟨Pb, 1, none⟩ (.int .i64 (x1 : Int))).rowIs Ob 46 2 (pc 0 0)) := (rowIs_grown HO1.out hg (by simp; omega)).setOther (by simp; omega) _
  have HR2 : Hid (ReadAt (w2.setCell ⟨Pb, 1, none⟩ (.int .i64 (x1 : Int))) B t i2) := hr.setOther (by simp; omega) _
  have HG2 : Hid (w.grownBy (w2.setCell ⟨Pb, 1, none⟩ (.int .i64 (x1 : Int))) (some B)) := grown_new (grown_tr HG1.out hg) (grown_set _ _ _ _) (fun k e => by have h1 := Option.some.inj e; have h2 := HOB.out; omega)
  have HW2 : Hid (WordsAt (w2.setCell ⟨Pb, 1, none⟩ (.int .i64 (x1 : Int)))) := (HW1.out.grown hg (fun k e => by have := Option.some.inj e; omega)).grown (grown_set _ _ _ _) (fun k e => by have := Option.some.inj e; omega)
  clear hr hg HR1 HW1 HG1 HO1 HP1
  go_wp2_with fail
  clear q0 qf
  obtain ⟨g, hge⟩ : ∃ g, (w2.setCell ⟨Pb, 1, none⟩ (.int .i64 (x1 : Int))).heap.size = g := ⟨_, rfl⟩
  have hge' := hge
  simp only [World.size_setCell] at hge'
  rw [hge']
  obtain ⟨W5, hW5⟩ : ∃ W5, (w2.setCell ⟨Pb, 1, none⟩ (.int .i64 (x1 : Int))).alloc (.cells #[.int .i64 7] 79) = W5 := ⟨_, rfl⟩
  rw [hW5]
  have gW : (w2.setCell ⟨Pb, 1, none⟩ (.int .i64 (x1 : Int))).grownBy W5 none := by rw [← hW5]; exact World.grownBy_alloc _ _ _
  have HR5 : Hid (ReadAt W5 B t i2) := rowIs_grown HR2.out gW (by simp)
  have HW5 : Hid (WordsAt W5) := HW2.out.grown gW (fun k e => by cases e)
  have HO5 : Hid (W5.rowIs Ob 46 2 (pc 0 0)) := rowIs_grown HO2.out gW (by simp)
  have HP5 : Hid (W5.rowIs Pb 46 2 (pc x0 x1)) := rowIs_grown HP2.out gW (by simp)
  have HG5 : Hid (w.grownBy W5 (some B)) := grown_new HG2.out gW (fun k e => by cases e)
  have HC5 : Hid (∀ j x : Nat, [7][j]? = some x → W5.cell? ⟨g, j, none⟩ = some (.int .i64 x)) := by
    clear hge'
    intro j x hx
    match j, hx with
    | 0, hx =>
      simp at hx
      subst hx hW5 hge
      go_simp
  have hgB : g ≠ B := by have := HR2.out.lt; omega
  clear hW5 gW hge hge' HR2 HW2 HG2 HO2 HP2
  refine (oneOf_O t [7] B i2 g 1 W5 HR5.out HW5.out hGB li2 ht (by simp) (by simp) hgB HC5.out).mono ?_
  rintro e w6 ⟨hc, _, hg⟩
  rcases hc with ⟨x, i6, le6, li6, rfl, hr, HK6⟩ | ⟨m, rfl, HK6⟩
  case inr =>
    go_wp2
    exact ⟨rfl, Or.inr ⟨m, rfl, fun k => by rw [HK1.out, HK2.out, HK6.out]⟩, grown_tr HG5.out hg⟩
  have HP6 : Hid (w6.rowIs Pb 46 2 (pc x0 x1)) := rowIs_grown HP5.out hg (by simp; omega)
  have HO6 : Hid (w6.rowIs Ob 46 2 (pc 0 0)) := rowIs_grown HO5.out hg (by simp; omega)
  have HR6 : Hid (ReadAt w6 B t i6) := hr
  have HG6 : Hid (w.grownBy w6 (some B)) := grown_tr HG5.out hg
  have p0 : w6.cell? ⟨Pb, 0, none⟩ = some (.int .i64 (x0 : Int)) := HP6.out.cell (i := 0) (by omega)
  have o0 : w6.cell? ⟨Ob, 0, none⟩ = some (.int .i64 0) := HO6.out.cell (i := 0) (by omega)
  have p1 : w6.cell? ⟨Pb, 1, none⟩ = some (.int .i64 (x1 : Int)) := HP6.out.cell (i := 1) (by omega)
  have o1 : w6.cell? ⟨Ob, 1, none⟩ = some (.int .i64 0) := HO6.out.cell (i := 1) (by omega)
  have of := HO6.out.frozen
  have HEND : Hid (∀ v0 v1, w.grownBy ((w6.setCell ⟨Ob, 0, none⟩ v0).setCell ⟨Ob, 1, none⟩ v1) (some B)) := fun v0 v1 => by
    iterate 2 refine grown_new ?_ (grown_set _ _ _ _) (fun k e => by have h1 := Option.some.inj e; have h2 := HOB.out; omega)
    exact HG6.out
  have HRE : Hid (∀ v0 v1, ReadAt ((w6.setCell ⟨Ob, 0, none⟩ v0).setCell ⟨Ob, 1, none⟩ v1) B t i6) := fun v0 v1 => by
    iterate 2 refine World.rowIs.setOther ?_ (by simp; omega) _
    exact HR6.out
  clear hr hg HR5 HW5 HO5 HP5 HG5 HC5 HP6 HO6 HR6 HG6
  go_wp2
  refine bodyPost_ret (v := .agg #[.int .i64 (x0 : Int), .int .i64 (x1 : Int)]) (by simp [results, Tryd.results59, go_sem, *]) rfl ⟨Or.inl ⟨(x0, x1), i6, by omega, li6, rfl, HRE.out _ _, fun k => by rw [HK1.out, HK2.out, HK6.out]⟩, HEND.out _ _⟩

set_option maxRecDepth 20000 in
set_option maxHeartbeats 4000000 in
theorem restOfZone_O (t : List UInt8) (B i : Nat) (w : World) (h : ReadAt w B t i) (hw : WordsAt w) (hGB : 0 < B) (hi : i ≤ t.length) (ht : t.length ≤ 3000) :
    Calls Tryd.prog 60 #[.pointer (some ⟨B, 0, none⟩)] w fun e w' => Out t i B (fun k => rbind rnum fun x0 => rbind (rword [3]) fun _ => rbind rnum fun x1 => rbind (rword [3]) fun _ => rbind rnum fun x2 => rbind (rword [7]) fun _ => k (x0, x1, x2)) (fun p : Nat × Nat × Nat => .agg #[.int .i64 (p.1 : Int), .int .i64 (p.2.1 : Int), .int .i64 (p.2.2 : Int)]) e w' ∧ w.grownBy w' (some B) := by
  have HR : Hid (ReadAt w B t i) := h
  have HW : Hid (WordsAt w) := hw
  have hBl : B < w.heap.size := h.lt
  clear h hw
  go_enter Tryd.func60, Tryd.ntmps60
  go_wp2_with fail
  obtain ⟨Ob, hOb⟩ : ∃ Ob, w.heap.size = Ob := ⟨_, rfl⟩
  obtain ⟨Pb, hPb⟩ : ∃ Pb, Ob + 1 = Pb := ⟨_, rfl⟩
  rw [hOb, hPb]
  obtain ⟨W, hWE⟩ : ∃ W, (w.alloc (.cells #[.int .i64 0, .int .i64 0, .int .i64 0] 49)).alloc (.cells #[.int .i64 0, .int .i64 0, .int .i64 0] 49) = W := ⟨_, rfl⟩
  rw [hWE]
  have HG0 : Hid (w.grownBy W (some B)) := by rw [← hWE]; exact grown_tr (World.grownBy_alloc _ _ _) (World.grownBy_alloc _ _ _)
  have HO0 : Hid (W.rowIs Ob 49 3 (zc 0 0 0)) := by
    have := (World.rowIs_alloc w #[.int .i64 0, .int .i64 0, .int .i64 0] 49 (zc 0 0 0) (fun i hi => by simp at hi; match i, hi with | 0, _ => rfl | 1, _ => rfl | 2, _ => rfl)).alloc (.cells #[.int .i64 0, .int .i64 0, .int .i64 0] 49)
    rw [hOb] at this
    rw [← hWE]; exact this
  have HP0 : Hid (W.rowIs Pb 49 3 (zc 0 0 0)) := by
    have := World.rowIs_alloc (w.alloc (.cells #[.int .i64 0, .int .i64 0, .int .i64 0] 49)) #[.int .i64 0, .int .i64 0, .int .i64 0] 49 (zc 0 0 0) (fun i hi => by simp at hi; match i, hi with | 0, _ => rfl | 1, _ => rfl | 2, _ => rfl)
    rw [World.size_alloc, hOb, hPb] at this
    rw [← hWE]; exact this
  have HR0 : Hid (ReadAt W B t i) := rowIs_grown (rowIs_grown HR.out (World.grownBy_alloc _ _ none) (by simp)) (by rw [← hWE]; exact World.grownBy_alloc _ _ none) (by simp)
  have HW0 : Hid (WordsAt W) := HW.out.grown HG0.out (fun k e => by have := Option.some.inj e; omega)
  have hBO : B < Ob := by omega
  have hOP : Ob < Pb := by omega
  have HOB : Hid (w.heap.size = Ob) := hOb
  clear hWE hOb hPb HR HW
  refine (number_O t B i W HR0.out hi ht).mono ?_
  rintro e w1 ⟨hc, hg⟩
  rcases hc with ⟨x0, i1, le1, li1, rfl, hr, HK1⟩ | ⟨m, rfl, HK1⟩
  case inr =>
    go_wp2
    exact ⟨rfl, Or.inr ⟨m, rfl, fun k => by rw [HK1.out]⟩, grown_tr HG0.out hg⟩
  have q0 := (rowIs_grown HP0.out hg (by simp; omega)).cell (i := 0) (by omega)
  have qf := (rowIs_grown HP0.out hg (by simp; omega)).frozen 0
  have HP1 : Hid ((w1.setCell ⟨Pb, 0, none⟩ (.int .i64 (x0 : Int))).rowIs Pb 49 3 (zc x0 0 0)) := ((rowIs_grown HP0.out hg (by simp; omega)).set 0 (.int .i64 (x0 : Int))).congr (fun k hk => match k, hk with | 0, _ => rfl | 1, _ => rfl | 2, _ => rfl)
  have HO1 : Hid ((w1.setCell ⟨Pb, 0, none⟩ (.int .i64 (x0 : Int))).rowIs Ob 49 3 (zc 0 0 0)) := (rowIs_grown HO0.out hg (by simp; omega)).setOther (by simp; omega) _
  have HR1 : Hid (ReadAt (w1.setCell ⟨Pb, 0, none⟩ (.int .i64 (x0 : Int))) B t i1) := hr.setOther (by simp; omega) _
  have HG1 : Hid (w.grownBy (w1.setCell ⟨Pb, 0, none⟩ (.int .i64 (x0 : Int))) (some B)) := grown_new (grown_tr HG0.out hg) (grown_set _ _ _ _) (fun k e => by have h1 := Option.some.inj e; have h2 := HOB.out; omega)
  have HW1 : Hid (WordsAt (w1.setCell ⟨Pb, 0, none⟩ (.int .i64 (x0 : Int)))) := (HW0.out.grown hg (fun k e => by have := Option.some.inj e; omega)).grown (grown_set _ _ _ _) (fun k e => by have := Option.some.inj e; omega)
  clear hr hg HR0 HW0 HG0 HO0 HP0
  go_wp2_with fail
  clear q0 qf
  refine (behind_O t 3 B i1 (w1.setCell ⟨Pb, 0, none⟩ (.int .i64 (x0 : Int))) HR1.out HW1.out hGB li1 ht (by omega)).mono ?_
  rintro e w2 ⟨hc, hg⟩
  rcases hc with ⟨x1, i2, le2, li2, rfl, hr, HK2⟩ | ⟨m, rfl, HK2⟩
  case inr =>
    go_wp2
    exact ⟨rfl, Or.inr ⟨m, rfl, fun k => by rw [HK1.out, HK2.out]⟩, grown_tr HG1.out hg⟩
  have q0 := (rowIs_grown HP1.out hg (by simp; omega)).cell (i := 1) (by omega)
  have qf := (rowIs_grown HP1.out hg (by simp; omega)).frozen 1
  have HP2 : Hid ((w2.setCell ⟨Pb, 1, none⟩ (.int .i64 (x1 : Int))).rowIs Pb 49 3 (zc x0 x1 0)) := ((rowIs_grown HP1.out hg (by simp; omega)).set 1 (.int .i64 (x1 : Int))).congr (fun k hk => match k, hk with | 0, _ => rfl | 1, _ => rfl | 2, _ => rfl)
  have HO2 : Hid ((w2.setCell ⟨Pb, 1, none⟩ (.int .i64 (x1 : Int))).rowIs Ob 49 3 (zc 0 0 0)) := (rowIs_grown HO1.out hg (by simp; omega)).setOther (by simp; omega) _
  have HR2 : Hid (ReadAt (w2.setCell ⟨Pb, 1, none⟩ (.int .i64 (x1 : Int))) B t i2) := hr.setOther (by simp; omega) _
  have HG2 : Hid (w.grownBy (w2.setCell ⟨Pb, 1, none⟩ (.int .i64 (x1 : Int))) (some B)) := grown_new (grown_tr HG1.out hg) (grown_set _ _ _ _) (fun k e => by have h1 := Option.some.inj e; have h2 := HOB.out; omega)
  have HW2 : Hid (WordsAt (w2.setCell ⟨Pb, 1, none⟩ (.int .i64 (x1 : Int)))) := (HW1.out.grown hg (fun k e => by have := Option.some.inj e; omega)).grown (grown_set _ _ _ _) (fun k e => by have := Option.some.inj e; omega)
  clear hr hg HR1 HW1 HG1 HO1 HP1
  go_wp2_with fail
  clear q0 qf
  refine (behind_O t 3 B i2 (w2.setCell ⟨Pb, 1, none⟩ (.int .i64 (x1 : Int))) HR2.out HW2.out hGB li2 ht (by omega)).mono ?_
  rintro e w3 ⟨hc, hg⟩
  rcases hc with ⟨x2, i3, le3, li3, rfl, hr, HK3⟩ | ⟨m, rfl, HK3⟩
  case inr =>
    go_wp2
    exact ⟨rfl, Or.inr ⟨m, rfl, fun k => by rw [HK1.out, HK2.out, HK3.out]⟩, grown_tr HG2.out hg⟩
  have q0 := (rowIs_grown HP2.out hg (by simp; omega)).cell (i := 2) (by omega)
  have qf := (rowIs_grown HP2.out hg (by simp; omega)).frozen 2
  have HP3 : Hid ((w3.setCell ⟨Pb, 2, none⟩ (.int .i64 (x2 : Int))).rowIs Pb 49 3 (zc x0 x1 x2)) := ((rowIs_grown HP2.out hg (by simp; omega)).set 2 (.int .i64 (x2 : Int))).congr (fun k hk => match k, hk with | 0, _ => rfl | 1, _ => rfl | 2, _ => rfl)
  have HO3 : Hid ((w3.setCell ⟨Pb, 2, none⟩ (.int .i64 (x2 : Int))).rowIs Ob 49 3 (zc 0 0 0)) := (rowIs_grown HO2.out hg (by simp; omega)).setOther (by simp; omega) _
  have HR3 : Hid (ReadAt (w3.setCell ⟨Pb, 2, none⟩ (.int .i64 (x2 : Int))) B t i3) := hr.setOther (by simp; omega) _
  have HG3 : Hid (w.grownBy (w3.setCell ⟨Pb, 2, none⟩ (.int .i64 (x2 : Int))) (some B)) := grown_new (grown_tr HG2.out hg) (grown_set _ _ _ _) (fun k e => by have h1 := Option.some.inj e; have h2 := HOB.out; omega)
  have HW3 : Hid (WordsAt (w3.setCell ⟨Pb, 2, none⟩ (.int .i64 (x2 : Int)))) := (HW2.out.grown hg (fun k e => by have := Option.some.inj e; omega)).grown (grown_set _ _ _ _) (fun k e => by have := Option.some.inj e; omega)
  clear hr hg HR2 HW2 HG2 HO2 HP2
  go_wp2_with fail
  clear q0 qf
  obtain ⟨g, hge⟩ : ∃ g, (w3.setCell ⟨Pb, 2, none⟩ (.int .i64 (x2 : Int))).heap.size = g := ⟨_, rfl⟩
  have hge' := hge
  simp only [World.size_setCell] at hge'
  rw [hge']
  obtain ⟨W5, hW5⟩ : ∃ W5, (w3.setCell ⟨Pb, 2, none⟩ (.int .i64 (x2 : Int))).alloc (.cells #[.int .i64 7] 79) = W5 := ⟨_, rfl⟩
  rw [hW5]
  have gW : (w3.setCell ⟨Pb, 2, none⟩ (.int .i64 (x2 : Int))).grownBy W5 none := by rw [← hW5]; exact World.grownBy_alloc _ _ _
  have HR5 : Hid (ReadAt W5 B t i3) := rowIs_grown HR3.out gW (by simp)
  have HW5 : Hid (WordsAt W5) := HW3.out.grown gW (fun k e => by cases e)
  have HO5 : Hid (W5.rowIs Ob 49 3 (zc 0 0 0)) := rowIs_grown HO3.out gW (by simp)
  have HP5 : Hid (W5.rowIs Pb 49 3 (zc x0 x1 x2)) := rowIs_grown HP3.out gW (by simp)
  have HG5 : Hid (w.grownBy W5 (some B)) := grown_new HG3.out gW (fun k e => by cases e)
  have HC5 : Hid (∀ j x : Nat, [7][j]? = some x → W5.cell? ⟨g, j, none⟩ = some (.int .i64 x)) := by
    clear hge'
    intro j x hx
    match j, hx with
    | 0, hx =>
      simp at hx
      subst hx hW5 hge
      go_simp
  have hgB : g ≠ B := by have := HR3.out.lt; omega
  clear hW5 gW hge hge' HR3 HW3 HG3 HO3 HP3
  refine (oneOf_O t [7] B i3 g 1 W5 HR5.out HW5.out hGB li3 ht (by simp) (by simp) hgB HC5.out).mono ?_
  rintro e w6 ⟨hc, _, hg⟩
  rcases hc with ⟨x, i6, le6, li6, rfl, hr, HK6⟩ | ⟨m, rfl, HK6⟩
  case inr =>
    go_wp2
    exact ⟨rfl, Or.inr ⟨m, rfl, fun k => by rw [HK1.out, HK2.out, HK3.out, HK6.out]⟩, grown_tr HG5.out hg⟩
  have HP6 : Hid (w6.rowIs Pb 49 3 (zc x0 x1 x2)) := rowIs_grown HP5.out hg (by simp; omega)
  have HO6 : Hid (w6.rowIs Ob 49 3 (zc 0 0 0)) := rowIs_grown HO5.out hg (by simp; omega)
  have HR6 : Hid (ReadAt w6 B t i6) := hr
  have HG6 : Hid (w.grownBy w6 (some B)) := grown_tr HG5.out hg
  have p0 : w6.cell? ⟨Pb, 0, none⟩ = some (.int .i64 (x0 : Int)) := HP6.out.cell (i := 0) (by omega)
  have o0 : w6.cell? ⟨Ob, 0, none⟩ = some (.int .i64 0) := HO6.out.cell (i := 0) (by omega)
  have p1 : w6.cell? ⟨Pb, 1, none⟩ = some (.int .i64 (x1 : Int)) := HP6.out.cell (i := 1) (by omega)
  have o1 : w6.cell? ⟨Ob, 1, none⟩ = some (.int .i64 0) := HO6.out.cell (i := 1) (by omega)
  have p2 : w6.cell? ⟨Pb, 2, none⟩ = some (.int .i64 (x2 : Int)) := HP6.out.cell (i := 2) (by omega)
  have o2 : w6.cell? ⟨Ob, 2, none⟩ = some (.int .i64 0) := HO6.out.cell (i := 2) (by omega)
  have of := HO6.out.frozen
  have HEND : Hid (∀ v0 v1 v2, w.grownBy (((w6.setCell ⟨Ob, 0, none⟩ v0).setCell ⟨Ob, 1, none⟩ v1).setCell ⟨Ob, 2, none⟩ v2) (some B)) := fun v0 v1 v2 => by
    iterate 3 refine grown_new ?_ (grown_set _ _ _ _) (fun k e => by have h1 := Option.some.inj e; have h2 := HOB.out; omega)
    exact HG6.out
  have HRE : Hid (∀ v0 v1 v2, ReadAt (((w6.setCell ⟨Ob, 0, none⟩ v0).setCell ⟨Ob, 1, none⟩ v1).setCell ⟨Ob, 2, none⟩ v2) B t i6) := fun v0 v1 v2 => by
    iterate 3 refine World.rowIs.setOther ?_ (by simp; omega) _
    exact HR6.out
  clear hr hg HR5 HW5 HO5 HP5 HG5 HC5 HP6 HO6 HR6 HG6
  go_wp2
  refine bodyPost_ret (v := .agg #[.int .i64 (x0 : Int), .int .i64 (x1 : Int), .int .i64 (x2 : Int)]) (by simp [results, Tryd.results60, go_sem, *]) rfl ⟨Or.inl ⟨(x0, x1, x2), i6, by omega, li6, rfl, HRE.out _ _ _, fun k => by rw [HK1.out, HK2.out, HK3.out, HK6.out]⟩, HEND.out _ _ _⟩

end Go.Proofs.YteodefmpkljedaaDoor
