/-
  The model's reader: its steps, past a fault or not.
-/
import Derived.Test.YteodefmpkljedaaDoorSpecRead3
import Derived.Test.YteodefmpkljedaaDoorGrow
namespace Go.Proofs.YteodefmpkljedaaDoor
open Go.RowKit Go.Sort Go.Shelf
set_option linter.unusedVariables false
set_option linter.unusedSimpArgs false

set_option maxHeartbeats 1000000 in
theorem must_past (t s : List UInt8) (R : Nat) (i b : Int) (w : World) (h : RdAt w R t i b) (hb : 0 ≤ b) (hs : 1 ≤ s.length) (hs' : s.length ≤ 10) :
    Calls Tryd.prog 23 #[.pointer (some ⟨R, 0, none⟩), .string ⟨s.toArray⟩] w fun e w' => e = .returned (.tuple #[]) ∧ w' = w := by
  have c2 := h.c2
  have hd : decide (b < 0) = false := by simp; omega
  have hl : (0 : Int) < (s.length : Int) := by omega
  clear h
  go_enter Tryd.func23, Tryd.ntmps23
  go_wp2_with fail
  go_loopw [4] (fun sj wr => sj = .int .i64 0 ∧ wr = w) (fun _ _ => 0)
  case atStart => exact ⟨rfl, rfl⟩
  case round =>
    obtain ⟨rfl, rfl⟩ := hrel
    go_wp2
    exact bodyPost_end (results_none (by kernel_rfl) _ _ _) rfl ⟨rfl, rfl⟩

set_option maxRecDepth 20000 in
set_option maxHeartbeats 1000000 in
theorem num_past (t : List UInt8) (R : Nat) (i b : Int) (w : World) (h : RdAt w R t i b) (hb : 0 ≤ b) :
    Calls Tryd.prog 22 #[.pointer (some ⟨R, 0, none⟩)] w fun e w' => e = .returned (.int .i64 0) ∧ ∃ n, w' = w.drewN n := by
  have c1 := h.c1
  have c2 := h.c2
  have hd : decide (b < 0) = false := by simp; omega
  clear h
  go_enter Tryd.func22, Tryd.ntmps22
  go_wp2_with fail
  go_loopw [3] (fun sj wr => sj = .int .i64 0 ∧ wr = w) (fun _ _ => 0)
  case atStart => exact ⟨rfl, rfl⟩
  case round =>
    obtain ⟨rfl, rfl⟩ := hrel
    go_wp2_with fail
    go_quiet (fail)
    go_wp2
    go_ret
    exact ⟨rfl, _, rfl⟩

/-- A word that must come, whatever was before. -/
theorem must_R (t : List UInt8) (id R i : Nat) (b : Int) (w : World) (h : RdAt w R t i b) (hb : b = -1 ∨ 0 ≤ b) (hi : i ≤ t.length) (ht : t.length ≤ 3000) :
    Calls Tryd.prog 23 #[.pointer (some ⟨R, 0, none⟩), .string ⟨(wrd id).toArray⟩] w fun e w' => e = .returned (.tuple #[]) ∧ ∃ (i' : Nat) (b' : Int), RdAt w' R t i' b' ∧ (b' = -1 ∨ 0 ≤ b') ∧ i ≤ i' ∧ i' ≤ t.length ∧ Hid (∀ (k : List UInt8 → Rd Got) (X : Rd Got), RAt t i b (rbind (rword [id]) fun _ => k) X → RAt t i' b' k X) ∧ w.grownBy w' (some R) := by
  obtain ⟨l1, l7⟩ := wrd_len id
  rcases hb with rfl | hb
  · refine (must_any t (wrd id) R i w h hi ht (by omega)).mono ?_
    rintro e w' ⟨rfl, hc, hg⟩
    refine ⟨rfl, ?_⟩
    rcases hc with ⟨h1, h2⟩ | ⟨h1, h2⟩
    · have hle : i + (wrd id).length ≤ t.length := by
        have := alike_le_l (t.drop i) (wrd id)
        rw [List.length_drop] at this
        omega
      exact ⟨_, _, h2, Or.inl rfl, by omega, hle, fun k X hX => hX.must.1 h1, hg⟩
    · have hle : i + alikeN (t.drop i) (wrd id) ≤ t.length := by
        have := alike_le_l (t.drop i) (wrd id)
        rw [List.length_drop] at this
        omega
      exact ⟨_, _, h2, Or.inr (by omega), by omega, hle, fun k X hX => hX.must.2 h1, hg⟩
  · refine (must_past t (wrd id) R i b w h hb l1 (by omega)).mono ?_
    rintro e w' ⟨rfl, rfl⟩
    exact ⟨rfl, i, b, h, Or.inr hb, Nat.le_refl _, hi, fun k X hX => hX.past hb, World.grownBy.refl _ _⟩
/-- A number, whatever was before. -/
theorem num_R (t : List UInt8) (R i : Nat) (b : Int) (w : World) (h : RdAt w R t i b) (hb : b = -1 ∨ 0 ≤ b) (hi : i ≤ t.length) (ht : t.length ≤ 3000) :
    Calls Tryd.prog 22 #[.pointer (some ⟨R, 0, none⟩)] w fun e w' => ∃ (n i' : Nat) (b' : Int), e = .returned (.int .i64 n) ∧ n ≤ 999999999 ∧ RdAt w' R t i' b' ∧ (b' = -1 ∨ 0 ≤ b') ∧ i ≤ i' ∧ i' ≤ t.length ∧ Hid (∀ (k : Nat → List UInt8 → Rd Got) (X : Rd Got), RAt t i b (rbind numS k) X → RAt t i' b' (k n) X) ∧ w.grownBy w' (some R) := by
  rcases hb with rfl | hb
  · refine (num_any t R i w h hi ht).mono ?_
    rintro e w' ⟨hc, hg⟩
    rcases hc with ⟨n, m, h1, h2, h3, rfl, h4⟩ | ⟨m, h1, h2, rfl, h3⟩
    · exact ⟨n, _, _, rfl, h2, h4, Or.inl rfl, by omega, h3, fun k X hX => hX.num.1 n m h1 h3, hg⟩
    · exact ⟨0, _, _, rfl, by omega, h3, Or.inr (by omega), by omega, h2, fun k X hX => hX.num.2 0 m h1 h2, hg⟩
  · refine (num_past t R i b w h hb).mono ?_
    rintro e w' ⟨rfl, n, rfl⟩
    exact ⟨0, i, b, rfl, by omega, h.of_block rfl, Or.inr hb, Nat.le_refl _, hi, fun k X hX => hX.past hb, grown_drawn _ _ _⟩

/-- The cells of pieces, of zones. -/
def cellsP : List (Nat × Nat) → List Value
  | [] => []
  | p :: ps => .int .i64 (p.1 : Int) :: .int .i64 (p.2 : Int) :: cellsP ps
def cellsZ : List (Nat × Nat × Nat) → List Value
  | [] => []
  | z :: zs => .int .i64 (z.1 : Int) :: .int .i64 (z.2.1 : Int) :: .int .i64 (z.2.2 : Int) :: cellsZ zs
theorem cellsP_app (ps : List (Nat × Nat)) (p : Nat × Nat) : cellsP (ps ++ [p]) = cellsP ps ++ [.int .i64 (p.1 : Int), .int .i64 (p.2 : Int)] := by
  induction ps with
  | nil => rfl
  | cons q qs ih => simp only [List.cons_append, cellsP, ih]
theorem cellsZ_app (zs : List (Nat × Nat × Nat)) (z : Nat × Nat × Nat) : cellsZ (zs ++ [z]) = cellsZ zs ++ [.int .i64 (z.1 : Int), .int .i64 (z.2.1 : Int), .int .i64 (z.2.2 : Int)] := by
  induction zs with
  | nil => rfl
  | cons q qs ih => simp only [List.cons_append, cellsZ, ih]
theorem last_any {α : Type} : ∀ {l : List α}, l ≠ [] → ∃ r c, l = r ++ [c]
  | [], h => absurd rfl h
  | [c], _ => ⟨[], c, rfl⟩
  | a :: b :: t, _ => by
    obtain ⟨r, c, e⟩ := last_any (l := b :: t) (by simp)
    exact ⟨a :: r, c, by rw [e]; rfl⟩
theorem cellsP_pairs (ps : List (Nat × Nat)) : cellsP ps = pairs (fun j => (((ps[j]?).getD (0, 0)).1 : Nat)) (fun j => (((ps[j]?).getD (0, 0)).2 : Nat)) ps.length := by
  obtain ⟨n, hn⟩ : ∃ n, ps.length = n := ⟨_, rfl⟩
  induction n generalizing ps with
  | zero => rw [List.eq_nil_of_length_eq_zero hn]; rfl
  | succ n ih =>
    obtain ⟨r, c, rfl⟩ := last_any (l := ps) (fun q => by rw [q] at hn; cases hn)
    have hr : r.length = n := by rw [List.length_append] at hn; simpa using hn
    rw [cellsP_app, ih r hr, List.length_append, List.length_singleton, pairs]
    congr 1
    · exact pairs_congr _ fun j hj => by rw [List.getElem?_append_left hj]; exact ⟨rfl, rfl⟩
    · rw [List.getElem?_append_right (Nat.le_refl _)]; simp
theorem cellsZ_triples (zs : List (Nat × Nat × Nat)) : cellsZ zs = triples (fun j => (((zs[j]?).getD (0, 0, 0)).1 : Nat)) (fun j => (((zs[j]?).getD (0, 0, 0)).2.1 : Nat)) (fun j => (((zs[j]?).getD (0, 0, 0)).2.2 : Nat)) zs.length := by
  obtain ⟨n, hn⟩ : ∃ n, zs.length = n := ⟨_, rfl⟩
  induction n generalizing zs with
  | zero => rw [List.eq_nil_of_length_eq_zero hn]; rfl
  | succ n ih =>
    obtain ⟨r, c, rfl⟩ := last_any (l := zs) (fun q => by rw [q] at hn; cases hn)
    have hr : r.length = n := by rw [List.length_append] at hn; simpa using hn
    rw [cellsZ_app, ih r hr, List.length_append, List.length_singleton, triples]
    congr 1
    · have : ∀ k, k ≤ r.length → triples (fun j => (((r[j]?).getD (0, 0, 0)).1 : Nat)) (fun j => (((r[j]?).getD (0, 0, 0)).2.1 : Nat)) (fun j => (((r[j]?).getD (0, 0, 0)).2.2 : Nat)) k = triples (fun j => ((((r ++ [c])[j]?).getD (0, 0, 0)).1 : Nat)) (fun j => ((((r ++ [c])[j]?).getD (0, 0, 0)).2.1 : Nat)) (fun j => ((((r ++ [c])[j]?).getD (0, 0, 0)).2.2 : Nat)) k := by
        intro k
        induction k with
        | zero => intro _; rfl
        | succ k ihk => intro hk; rw [triples, triples, ihk (by omega), List.getElem?_append_left (by omega)]
      exact this _ (Nat.le_refl _)
    · rw [List.getElem?_append_right (Nat.le_refl _)]; simp

def z7 (k : Nat) : Value := if k = 2 ∨ k = 3 then nilS else .int .i64 0
/-- What holds while the model reads: the result's block, the reader's, the profile's, the two rows. -/
def RS (w x : World) (Ob R Pb : Nat) (t : List UInt8) (i b : Int) (sp sz : Value) (ps : List (Nat × Nat)) (zs : List (Nat × Nat × Nat)) (tr fi de : Int) : Prop :=
  (w.heap.size ≤ Ob ∧ Ob < R ∧ R < Pb) ∧ x.rowIs Ob 32 7 z7 ∧ RdAt x R t i b ∧ x.rowIs Pb 26 5 (p5 sp sz tr fi de) ∧ x.ownsRow (Pb + 1) 46 2 sp ps.length (cellsP ps) ∧ x.ownsRow (Pb + 1) 49 3 sz zs.length (cellsZ zs) ∧ Below w.heap.size w x
theorem RS.step {w x y : World} {Ob R Pb : Nat} {t : List UInt8} {i b i' b' : Int} {sp sz : Value} {ps : List (Nat × Nat)} {zs : List (Nat × Nat × Nat)} {tr fi de : Int} (h : RS w x Ob R Pb t i b sp sz ps zs tr fi de) (hg : x.grownBy y (some R)) (hr : RdAt y R t i' b') : RS w y Ob R Pb t i' b' sp sz ps zs tr fi de := by
  obtain ⟨⟨h0, h1, h2⟩, o1, o2, o3, o4, o5, o6⟩ := h
  exact ⟨⟨h0, h1, h2⟩, rowIs_grown o1 hg (by simp; omega), hr, rowIs_grown o3 hg (by simp; omega), owned_grown o4 hg (fun j e he => by have := ownsRow_block o4 j he; have := Option.some.inj e; omega), owned_grown o5 hg (fun j e he => by have := ownsRow_block o5 j he; have := Option.some.inj e; omega), o6.grown hg (o6.size) (fun k e => by have := Option.some.inj e; omega)⟩
theorem RS.free {w x y : World} {Ob R Pb : Nat} {t : List UInt8} {i b : Int} {sp sz : Value} {ps : List (Nat × Nat)} {zs : List (Nat × Nat × Nat)} {tr fi de : Int} (h : RS w x Ob R Pb t i b sp sz ps zs tr fi de) (hg : x.grownBy y none) : RS w y Ob R Pb t i b sp sz ps zs tr fi de := by
  obtain ⟨h0, o1, o2, o3, o4, o5, o6⟩ := h
  exact ⟨h0, rowIs_grown o1 hg (by simp), rowIs_grown o2 hg (by simp), rowIs_grown o3 hg (by simp), owned_grown o4 hg (fun j e he => by cases e), owned_grown o5 hg (fun j e he => by cases e), o6.grown hg o6.size (fun k e => by cases e)⟩
theorem own_ne {x : World} {b1 b2 e1 e2 s1 s2 n1 n2 : Nat} {v u : Value} {xs ys : List Value} (h : x.ownsRow b1 e1 s1 v n1 xs) (g : x.ownsRow b2 e2 s2 u n2 ys) (he : e1 ≠ e2) : ∀ j, u.ownBlock = some j → v.ownBlock ≠ some j := by
  intro j hj hv
  rcases h.2 with ⟨rfl, _⟩ | ⟨g1, cp, cur, rfl, h3, h4, _⟩
  · cases hv
  · rcases g.2 with ⟨rfl, _⟩ | ⟨g', cp', cur', rfl, h3', h4', _⟩
    · cases hj
    · simp [Value.ownBlock] at hv hj
      subst hv hj
      rw [h4] at h4'
      simp at h4'
      exact he h4'.2
/-- A piece has been appended. -/
theorem RS.piece {w x y : World} {Ob R Pb : Nat} {t : List UInt8} {i b : Int} {sp sz sp' : Value} {ps : List (Nat × Nat)} {zs : List (Nat × Nat × Nat)} {tr fi de : Int} (h : RS w x Ob R Pb t i b sp sz ps zs tr fi de) (l c : Nat) (hg : x.grownBy y sp.ownBlock) (ho : y.ownsRow (Pb + 1) 46 2 sp' (ps.length + 1) (cellsP ps ++ [.int .i64 (l : Int), .int .i64 (c : Int)])) :
    y.rowIs Pb 26 5 (p5 sp sz tr fi de) ∧ RS w (y.setCell ⟨Pb, 0, none⟩ sp') Ob R Pb t i b sp' sz (ps ++ [(l, c)]) zs tr fi de := by
  obtain ⟨⟨h0, h1, h2⟩, o1, o2, o3, o4, o5, o6⟩ := h
  have hob := ownsRow_block o4
  have hne := own_ne o5 o4 (by decide)
  have p1 := rowIs_grown o1 hg (fun e => by have := hob _ e.symm; omega)
  have p2 : RdAt y R t i b := rowIs_grown o2 hg (fun e => by have := hob _ e.symm; omega)
  have p3 := rowIs_grown o3 hg (fun e => by have := hob _ e.symm; omega)
  have p5' := owned_grown o5 hg (fun j e he => hne j e he)
  have p6 := o6.grown hg o6.size (fun k e => by have := hob _ e; omega)
  have gs := grown_set y Pb 0 sp'
  refine ⟨p3, ⟨h0, h1, h2⟩, p1.setOther (by simp; omega) _, p2.setOther (by simp; omega) _, ?_, ?_, owned_grown p5' gs (fun j e he => by have h1 := ownsRow_block p5' j he; have h2 := Option.some.inj e; omega), p6.setCell (by simp; omega) _⟩
  · refine (p3.set 0 _).congr fun k hk => ?_
    match k, hk with
    | 0, _ => rfl
    | 1, _ => rfl
    | 2, _ => rfl
    | 3, _ => rfl
    | 4, _ => rfl
  · rw [cellsP_app, List.length_append, List.length_singleton]
    exact owned_grown ho gs (fun j e he => by have h1 := ownsRow_block ho j he; have h2 := Option.some.inj e; omega)
/-- A zone has been appended. -/
theorem RS.zone {w x y : World} {Ob R Pb : Nat} {t : List UInt8} {i b : Int} {sp sz sz' : Value} {ps : List (Nat × Nat)} {zs : List (Nat × Nat × Nat)} {tr fi de : Int} (h : RS w x Ob R Pb t i b sp sz ps zs tr fi de) (l c d : Nat) (hg : x.grownBy y sz.ownBlock) (ho : y.ownsRow (Pb + 1) 49 3 sz' (zs.length + 1) (cellsZ zs ++ [.int .i64 (l : Int), .int .i64 (c : Int), .int .i64 (d : Int)])) :
    y.rowIs Pb 26 5 (p5 sp sz tr fi de) ∧ RS w (y.setCell ⟨Pb, 1, none⟩ sz') Ob R Pb t i b sp sz' ps (zs ++ [(l, c, d)]) tr fi de := by
  obtain ⟨⟨h0, h1, h2⟩, o1, o2, o3, o4, o5, o6⟩ := h
  have hob := ownsRow_block o5
  have hne := own_ne o4 o5 (by decide)
  have p1 := rowIs_grown o1 hg (fun e => by have := hob _ e.symm; omega)
  have p2 : RdAt y R t i b := rowIs_grown o2 hg (fun e => by have := hob _ e.symm; omega)
  have p3 := rowIs_grown o3 hg (fun e => by have := hob _ e.symm; omega)
  have p4' := owned_grown o4 hg (fun j e he => hne j e he)
  have p6 := o6.grown hg o6.size (fun k e => by have := hob _ e; omega)
  have gs := grown_set y Pb 1 sz'
  refine ⟨p3, ⟨h0, h1, h2⟩, p1.setOther (by simp; omega) _, p2.setOther (by simp; omega) _, ?_, owned_grown p4' gs (fun j e he => by have h1 := ownsRow_block p4' j he; have h2 := Option.some.inj e; omega), ?_, p6.setCell (by simp; omega) _⟩
  · refine (p3.set 1 _).congr fun k hk => ?_
    match k, hk with
    | 0, _ => rfl
    | 1, _ => rfl
    | 2, _ => rfl
    | 3, _ => rfl
    | 4, _ => rfl
  · rw [cellsZ_app, List.length_append, List.length_singleton]
    exact owned_grown ho gs (fun j e he => by have h1 := ownsRow_block ho j he; have h2 := Option.some.inj e; omega)
theorem RS.set {w x : World} {Ob R Pb : Nat} {t : List UInt8} {i b : Int} {sp sz : Value} {ps : List (Nat × Nat)} {zs : List (Nat × Nat × Nat)} {tr fi de tr' fi' de' : Int} (h : RS w x Ob R Pb t i b sp sz ps zs tr fi de) (k : Nat) (z : Int) (hp : ∀ j, j < 5 → (if j = k then Value.int .i64 z else p5 sp sz tr fi de j) = p5 sp sz tr' fi' de' j) : RS w (x.setCell ⟨Pb, k, none⟩ (.int .i64 z)) Ob R Pb t i b sp sz ps zs tr' fi' de' := by
  obtain ⟨⟨h0, h1, h2⟩, o1, o2, o3, o4, o5, o6⟩ := h
  have gs := grown_set x Pb k (.int .i64 z)
  exact ⟨⟨h0, h1, h2⟩, o1.setOther (by simp; omega) _, o2.setOther (by simp; omega) _, (o3.set k _).congr fun j hj => hp j hj, owned_grown o4 gs (fun j e he => by have h1 := ownsRow_block o4 j he; have h2 := Option.some.inj e; omega), owned_grown o5 gs (fun j e he => by have h1 := ownsRow_block o5 j he; have h2 := Option.some.inj e; omega), o6.setCell (by simp; omega) _⟩

end Go.Proofs.YteodefmpkljedaaDoor
