/-
  What is tighter is no safer: two profiles, the one with a zone more, a longer train or a nearer end.
-/
import Derived.Test.YteodefmpkljedaaLawSafe
import Derived.Test.YteodefmpkljedaaImplSafe
import Derived.Laws.AppendOwnNone
namespace Go.Proofs.Yteodefmpkljedaa
open Go.RowKit
set_option linter.unusedVariables false

structure Prof.Tighter (P Q : Prof) : Prop where
  np : Q.np = P.np
  L : Q.L = P.L
  B : Q.B = P.B
  delay : Q.delay = P.delay
  nz : P.nz ≤ Q.nz
  F : ∀ j, j < P.nz → Q.F j = P.F j
  T : ∀ j, j < P.nz → Q.T j = P.T j
  S : ∀ j, j < P.nz → Q.S j = P.S j
  train : P.train ≤ Q.train
  fin : Q.fin ≤ P.fin
theorem Prof.Tighter.rate {P Q : Prof} (h : P.Tighter Q) (x : Int) : Q.rate x = P.rate x := by unfold Prof.rate; rw [h.np, h.L, h.B]
theorem Prof.Tighter.total {P Q : Prof} (h : P.Tighter Q) : Q.total = P.total := by unfold Prof.total; rw [h.np, h.L]
theorem Prof.Tighter.safe {P Q : Prof} (h : P.Tighter Q) (hok : P.Ok) {x v : Int} (hv : 0 ≤ v) (hs : Q.safe 0 x v = true) : P.safe 0 x v = true :=
  Prof.safe_looser hok.rates h.rate h.delay (fun y u _ hm => Prof.may_tighter h.nz h.F h.T h.S h.train h.fin y u hm) hv hs
theorem Prof.Tighter.safeAns {P Q : Prof} (h : P.Tighter Q) (hok : P.Ok) {x v : Int} (hs : Q.safeAns x v = true) : P.safeAns x v = true := by
  unfold Prof.safeAns at *
  simp only [Bool.and_eq_true, decide_eq_true_eq] at *
  obtain ⟨⟨_, h0, h1, h2, h3⟩, h4⟩ := hs
  rw [h.total] at h1
  exact ⟨⟨Prof.code_ok hok, h0, h1, h2, h3⟩, h.safe hok h2 h4⟩
theorem Prof.Tighter.most {P Q : Prof} (h : P.Tighter Q) (hok : P.Ok) (x : Int) : Q.most x ≤ P.most x := Prof.most_looser (fun v hv hs => h.safe hok hv hs)
theorem Prof.Tighter.mostAns {P Q : Prof} (h : P.Tighter Q) (hok : P.Ok) (x : Int) : Q.mostAns x ≤ P.mostAns x := by
  unfold Prof.mostAns
  rw [h.total, Prof.code_ok hok]
  have h1 := h.most hok x
  have h2 := (P.most_bounds x).1
  split <;> split <;> omega

/-- One zone more. -/
def Prof.withZone (P : Prof) (f t s : Int) : Prof := { P with nz := P.nz + 1, F := fun j => if j = P.nz then f else P.F j, T := fun j => if j = P.nz then t else P.T j, S := fun j => if j = P.nz then s else P.S j }
theorem Prof.withZone_tighter (P : Prof) (f t s : Int) : P.Tighter (P.withZone f t s) where
  np := rfl
  L := rfl
  B := rfl
  delay := rfl
  nz := Nat.le_succ _
  F := fun j hj => if_neg (by omega)
  T := fun j hj => if_neg (by omega)
  S := fun j hj => if_neg (by omega)
  train := Int.le_refl _
  fin := Int.le_refl _
def Prof.withTrain (P : Prof) (t : Int) : Prof := { P with train := t }
theorem Prof.withTrain_tighter (P : Prof) {t : Int} (h : P.train ≤ t) : P.Tighter (P.withTrain t) where
  np := rfl
  L := rfl
  B := rfl
  delay := rfl
  nz := Nat.le_refl _
  F := fun j hj => rfl
  T := fun j hj => rfl
  S := fun j hj => rfl
  train := h
  fin := Int.le_refl _
def Prof.withEnd (P : Prof) (f : Int) : Prof := { P with fin := f }
theorem Prof.withEnd_tighter (P : Prof) {f : Int} (h : f ≤ P.fin) : P.Tighter (P.withEnd f) where
  np := rfl
  L := rfl
  B := rfl
  delay := rfl
  nz := Nat.le_refl _
  F := fun j hj => rfl
  T := fun j hj => rfl
  S := fun j hj => rfl
  train := Int.le_refl _
  fin := h
theorem triples_congr {f g h f' g' h' : Nat → Int} : ∀ k, (∀ j, j < k → f j = f' j ∧ g j = g' j ∧ h j = h' j) → triples f g h k = triples f' g' h' k
  | 0, _ => rfl
  | k + 1, H => by
    obtain ⟨a, b, c⟩ := H k (Nat.lt_succ_self k)
    unfold triples
    rw [triples_congr k (fun j hj => H j (Nat.lt_succ_of_lt hj)), a, b, c]
theorem triples_withZone (P : Prof) (f t s : Int) : triples (P.withZone f t s).F (P.withZone f t s).T (P.withZone f t s).S (P.nz + 1) = triples P.F P.T P.S P.nz ++ [.int .i64 f, .int .i64 t, .int .i64 s] := by
  have e1 : (P.withZone f t s).F P.nz = f := if_pos rfl
  have e2 : (P.withZone f t s).T P.nz = t := if_pos rfl
  have e3 : (P.withZone f t s).S P.nz = s := if_pos rfl
  conv => lhs; unfold triples
  have e4 : triples (P.withZone f t s).F (P.withZone f t s).T (P.withZone f t s).S P.nz = triples P.F P.T P.S P.nz := triples_congr P.nz (fun j hj => ⟨(P.withZone_tighter f t s).F j hj, (P.withZone_tighter f t s).T j hj, (P.withZone_tighter f t s).S j hj⟩)
  rw [e1, e2, e3, e4]
theorem triples_one (f g h : Nat → Int) : ∀ k, ∀ u ∈ triples f g h k, u.oneCell' = true
  | 0, u, hu => by cases hu
  | k + 1, u, hu => by
    unfold triples at hu
    rw [List.mem_append] at hu
    rcases hu with hu | hu
    · exact triples_one f g h k u hu
    · simp at hu
      rcases hu with rfl | rfl | rfl <;> rfl
theorem row3_news {w : World} {g n : Nat} {F T S : Nat → Int} (h : Row3 w (some ⟨g, 0, none⟩) n F T S) : ∀ j u, (triples F T S n)[j]? = some u → w.cell? ((⟨g, 0, none⟩ : Addr).add j) = some u := by
  intro j u hj
  have hl : j < n * 3 := by
    rcases Nat.lt_or_ge j (n * 3) with c | c
    · exact c
    · rw [List.getElem?_eq_none (by rw [triples_length]; exact c)] at hj; cases hj
  rcases h with h0 | ⟨b, off, e, hb, hc⟩
  · omega
  · cases e
    obtain ⟨c0, c1, c2⟩ := hc (j / 3) (by omega)
    obtain ⟨t0, t1, t2⟩ := triples_get F T S n (j / 3) (by omega)
    have ha : ((⟨g, 0, none⟩ : Addr).add j) = ⟨g, 0 + j, none⟩ := by
      simp [Addr.add]
      intro h
      omega
    rw [ha]
    have h3 : j % 3 = 0 ∨ j % 3 = 1 ∨ j % 3 = 2 := by omega
    rcases h3 with m | m | m
    · rw [show j / 3 * 3 = j by omega] at c0 t0
      rw [t0] at hj; cases hj; exact c0
    · rw [show 0 + j / 3 * 3 + 1 = 0 + j by omega] at c1
      rw [show j / 3 * 3 + 1 = j by omega] at t1
      rw [t1] at hj; cases hj; exact c1
    · rw [show 0 + j / 3 * 3 + 2 = 0 + j by omega] at c2
      rw [show j / 3 * 3 + 2 = j by omega] at t2
      rw [t2] at hj; cases hj; exact c2
/-- A drawn profile, and how its row of zones lies. -/
theorem drawn_own {w : World} {a : Option Addr} {len : Nat} (cap : Nat) (h : RowOk w a len) (hlen : len ≤ 1048576) :
    ∃ (P : Prof) (x : Int), P.Ok ∧ 0 ≤ x ∧ x ≤ P.fin ∧ Hid (∀ w', Below w.heap.size w w' → Calls Try.prog 14 #[.slice a len cap] w' fun e w2 => ∃ ap cp az cz v3, e = .returned (.tuple #[.agg #[.slice ap P.np cp, .slice az P.nz cz, .int .i64 P.train, .int .i64 P.fin, .int .i64 P.delay], .int .i64 x, v3]) ∧ P.Lies w2 (.agg #[.slice ap P.np cp, .slice az P.nz cz, .int .i64 P.train, .int .i64 P.fin, .int .i64 P.delay]) ∧ ((az = none ∧ cz = 0 ∧ P.nz = 0) ∨ ∃ g, az = some ⟨g, 0, none⟩) ∧ (∃ a3 n3 c3, v3 = .slice a3 n3 c3) ∧ Below w'.heap.size w' w2) := by
  obtain ⟨hm, hr⟩ := h
  obtain ⟨C, rfl, hC, hT⟩ : ∃ C : Txt, C.len = len ∧ C.Ok ∧ TxtIn w a C := by
    rcases hr with h0 | ⟨b, off, zs, rfl, hb, hl, hc, hw⟩
    · exact ⟨⟨len, fun _ => 0⟩, rfl, ⟨hlen, fun j hj => by have : j < len := hj; omega⟩, Or.inl h0⟩
    · refine ⟨⟨len, fun j => zs.getD j 0⟩, rfl, ⟨hlen, fun j hj => ?_⟩, Or.inr ⟨b, off, rfl, hb, fun j hj => hc j (by have : j < len := hj; omega)⟩⟩
      have hj' : j < zs.length := by have : j < len := hj; omega
      have e : zs.getD j 0 = zs[j] := by simp [List.getD, hj']
      show 0 ≤ zs.getD j 0 ∧ zs.getD j 0 ≤ 255
      rw [e]
      have := Go.bounds_u8 (hw _ (List.getElem_mem hj'))
      omega
  refine ⟨C.P, C.x, Txt.P_ok hC, (Txt.x_bounds hC).1, (Txt.x_bounds hC).2, fun w' hb => ?_⟩
  refine (profiles_any C hC a cap w' (hT.below hb)).mono ?_
  rintro e w2 ⟨v1, v2, v3, rfl, h1, h2, h3, h4⟩
  obtain ⟨ap, cp, rfl, p1, p2, _⟩ := owned_shape h1
  have hz := h2.2
  obtain ⟨az, cz, rfl, z1, z2, _⟩ := owned_shape h2
  obtain ⟨a3, c3, rfl, _, _, _⟩ := owned_shape h3
  refine ⟨ap, cp, az, cz, _, rfl, ⟨ap, cp, az, cz, rfl, by omega, by omega, owned_row2 h1, owned_row3 h2⟩, ?_, ⟨_, _, _, rfl⟩, h4⟩
  rcases hz with ⟨e1, e2⟩ | ⟨g, cap', cur, e1, _⟩
  · left
    simp at e1
    exact ⟨e1.1, e1.2.2, e2⟩
  · right
    simp at e1
    exact ⟨g, e1.1⟩
/-- A row of zones behind an empty one. -/
theorem wpList_append_zones {P : Program} {w : World} {ops : Array Oper} {rest : List Oper} {o : Oper} {a : Act} {Q : Exit → Act → World → Prop} (hgd : o.guard = none) (s x : Operand) (t : TypeId)
    (ho : o.op = .call { callee := .builtin .append, args := #[s, x], argTypes := #[t, t] })
    (base : Nat) (e : TypeId) (i : TypeInfo) (z : Value) (ht : P.underlying t = some (.slice e)) (hi : P.info? e = some i) (hz : i.zero = some z) (hs1 : i.size = 3) (hs2 : i.bytes = 24) (hs3 : z.cells.size = 3)
    (v : Value) (hs : a.eval s = v) (hown : w.ownsRow base e 3 v 0 [])
    (az : Option Addr) (nz cz : Nat) (F T S : Nat → Int) (hx : a.eval x = .slice az nz cz) (haz : (az = none ∧ cz = 0 ∧ nz = 0) ∨ ∃ g, az = some ⟨g, 0, none⟩) (hrow : Row3 w az nz F T S) (hn : nz ≤ 60) (hb : base ≤ w.heap.size)
    (h : ∀ v' w', w'.ownsRow base e 3 v' nz (triples F T S nz) → w.grownBy w' v.ownBlock → wpList P ops Q rest (a.put o.dst v') w') : wpList P ops Q (o :: rest) a w := by
  rcases haz with ⟨rfl, rfl, rfl⟩ | ⟨g, rfl⟩
  · exact wpList_append_own_none hgd s x t ho base e i 3 ht hi v 0 [] hs hown hx (h v w hown (World.grownBy.refl _ _))
  · refine wpList_append_own w hgd s x t ho base e i z 3 24 ht hi hz hs1 hs2 hs3 (by decide) v 0 [] hs hown ⟨g, 0, none⟩ nz cz (triples F T S nz) hx (triples_length F T S nz) (row3_news hrow) (triples_one F T S nz) (by unfold maxLen; omega) (by omega) hb ?_
    intro v' w' h1 h2 _
    rw [Nat.zero_add, List.nil_append] at h1
    exact h v' w' h1 h2
theorem Prof.Lies.zones {P : Prof} {w : World} {ap az : Option Addr} {cp cz : Nat} (h : P.Lies w (.agg #[.slice ap P.np cp, .slice az P.nz cz, .int .i64 P.train, .int .i64 P.fin, .int .i64 P.delay])) : Row3 w az P.nz P.F P.T P.S := by
  obtain ⟨ap', cp', az', cz', e, _, _, _, h3⟩ := h
  simp at e
  obtain ⟨_, ⟨rfl, _⟩⟩ := e
  exact h3
theorem lies_with {P Q : Prof} {w : World} {ap az a4 : Option Addr} {cp cz c4 : Nat} (h : P.Lies w (.agg #[.slice ap P.np cp, .slice az P.nz cz, .int .i64 P.train, .int .i64 P.fin, .int .i64 P.delay])) (t : P.Tighter Q) (hz : Row3 w a4 Q.nz Q.F Q.T Q.S) (hn : Q.nz ≤ 61) :
    Q.Lies w (.agg #[.slice ap Q.np cp, .slice a4 Q.nz c4, .int .i64 Q.train, .int .i64 Q.fin, .int .i64 Q.delay]) := by
  obtain ⟨ap', cp', az', cz', e, h1, h2, h3, h4⟩ := h
  simp at e
  obtain ⟨⟨rfl, rfl⟩, _⟩ := e
  refine ⟨ap, cp, a4, c4, rfl, ?_, by omega, ?_, hz⟩
  · rw [t.np]; exact h1
  · rw [t.np, t.L, t.B]; exact h3

end Go.Proofs.Yteodefmpkljedaa
