/-
  A profile as plain mathematics, and how it lies in memory.
-/
import Derived.WalkKit
import Derived.Lib.QuietBelow
import Derived.BigQuiet
namespace Go.Proofs.YteodefmpkljedaaDoor
open Go.RowKit Go.Sort

/-- A profile: its pieces (length, brake), its zones (from, to, speed), the length of the train, the end, the delay. -/
structure Prof where
  np : Nat
  L : Nat → Int
  B : Nat → Int
  nz : Nat
  F : Nat → Int
  T : Nat → Int
  S : Nat → Int
  train : Int
  fin : Int
  delay : Int

def sumTo (L : Nat → Int) : Nat → Int
  | 0 => 0
  | k + 1 => sumTo L k + L k

def Prof.total (P : Prof) : Int := sumTo P.L P.np
/-- The pieces' lengths are in their bounds. -/
def Prof.Lens (P : Prof) : Prop := P.np ≤ 60 ∧ ∀ j, j < P.np → 1 ≤ P.L j ∧ P.L j ≤ 1666666

theorem sumTo_bounds {L : Nat → Int} {n : Nat} (h : ∀ j, j < n → 1 ≤ L j ∧ L j ≤ 1666666) : ∀ k : Nat, k ≤ n → (k : Int) ≤ sumTo L k ∧ sumTo L k ≤ 1666666 * k
  | 0, _ => by simp [sumTo]
  | k + 1, hk => by
    have ih := sumTo_bounds h k (by omega)
    have hj := h k (by omega)
    simp only [sumTo]
    omega

theorem sumTo_up {L : Nat → Int} {n : Nat} (h : ∀ j, j < n → 1 ≤ L j) (i k : Nat) (hik : i ≤ k) (hk : k ≤ n) : sumTo L i + ((k : Int) - i) ≤ sumTo L k := by
  induction k with
  | zero => have : i = 0 := by omega
            subst this; simp
  | succ m ih =>
    by_cases c : i = m + 1
    · subst c; omega
    · have := ih (by omega) (by omega)
      have hj := h m (by omega)
      simp only [sumTo]
      omega

theorem sumTo_mono {L : Nat → Int} {n : Nat} (h : ∀ j, j < n → 1 ≤ L j ∧ L j ≤ 1666666) (i k : Nat) (hik : i ≤ k) (hk : k ≤ n) : sumTo L i + ((k : Int) - i) ≤ sumTo L k := sumTo_up (fun j hj => (h j hj).1) i k hik hk
/-- Pieces, each of some length. -/
def Prof.Up (P : Prof) : Prop := P.np ≤ 60 ∧ ∀ j, j < P.np → 1 ≤ P.L j
theorem Prof.Lens.up {P : Prof} (h : P.Lens) : P.Up := ⟨h.1, fun j hj => (h.2 j hj).1⟩

theorem Prof.total_bounds {P : Prof} (h : P.Lens) : (P.np : Int) ≤ P.total ∧ P.total ≤ 100000000 := by
  have := sumTo_bounds h.2 P.np (Nat.le_refl _)
  have h1 := h.1
  unfold Prof.total
  omega

def rateUp (L B : Nat → Int) (x : Int) : Nat → Nat → Int
  | 0, k => B (k - 1)
  | m + 1, k => if x < sumTo L (k + 1) then B k else rateUp L B x m (k + 1)
/-- The brake of the piece in which a place is. -/
def Prof.rate (P : Prof) (x : Int) : Int := rateUp P.L P.B x P.np 0

theorem rateUp_of {L B : Nat → Int} {x : Int} : ∀ (m k i : Nat), k ≤ i → i < k + m → (∀ j, k ≤ j → j < i → sumTo L (j + 1) ≤ x) → x < sumTo L (i + 1) → rateUp L B x m k = B i
  | 0, k, i, h1, h2, _, _ => by omega
  | m + 1, k, i, h1, h2, h3, h4 => by
    unfold rateUp
    by_cases c : k = i
    · subst c; rw [if_pos h4]
    · have := h3 k (Nat.le_refl _) (by omega)
      rw [if_neg (by omega)]
      exact rateUp_of m (k + 1) i (by omega) (by omega) (fun j a b => h3 j (by omega) b) h4
theorem rateUp_last {L B : Nat → Int} {x : Int} : ∀ (m k : Nat), (∀ j, k ≤ j → j < k + m → sumTo L (j + 1) ≤ x) → rateUp L B x m k = B (k + m - 1)
  | 0, k, _ => by simp [rateUp]
  | m + 1, k, h => by
    unfold rateUp
    have := h k (Nat.le_refl _) (by omega)
    rw [if_neg (by omega), rateUp_last m (k + 1) (fun j a b => h j (by omega) (by omega))]
    congr 1
    omega

/-- A speed less by a brake, not below 0. -/
def less (v b : Int) : Int := if v < b then 0 else v - b
theorem less_bounds {v b : Int} (hv : 0 ≤ v) (hb : 0 ≤ b) : 0 ≤ less v b ∧ less v b ≤ v := by unfold less; split <;> omega
theorem less_lt {v b : Int} (hv : 1 ≤ v) (hb : 1 ≤ b) : less v b < v := by unfold less; split <;> omega

/-- The least speed of the first k zones that a move touches. -/
def Prof.overTo (P : Prof) (a b : Int) : Nat → Int
  | 0 => 10000
  | k + 1 => if P.F k ≤ b ∧ a ≤ P.T k + P.train ∧ P.S k < P.overTo a b k then P.S k else P.overTo a b k
def Prof.over (P : Prof) (a b : Int) : Int := P.overTo a b P.nz

def Prof.Counts (P : Prof) : Prop := 1 ≤ P.np ∧ P.np ≤ 60 ∧ P.nz ≤ 60
def Prof.PiecesOk (P : Prof) : Prop := ∀ j, j < P.np → (1 ≤ P.L j ∧ P.L j ≤ 1666666) ∧ (10 ≤ P.B j ∧ P.B j ≤ 1000)
def Prof.ZonesOk (P : Prof) : Prop := ∀ j, j < P.nz → (0 ≤ P.F j ∧ P.F j ≤ P.total) ∧ (P.F j ≤ P.T j ∧ P.T j ≤ P.total) ∧ (1 ≤ P.S j ∧ P.S j ≤ 10000)
/-- The first fault of a profile. -/
def Prof.code (P : Prof) : Int :=
  if ¬ (1 ≤ P.np ∧ P.np ≤ 60 ∧ P.nz ≤ 60) then 1 else if ¬ (∀ j, j < P.np → (1 ≤ P.L j ∧ P.L j ≤ 1666666) ∧ (10 ≤ P.B j ∧ P.B j ≤ 1000)) then 2
  else if ¬ (∀ j, j < P.nz → (0 ≤ P.F j ∧ P.F j ≤ P.total) ∧ (P.F j ≤ P.T j ∧ P.T j ≤ P.total) ∧ (1 ≤ P.S j ∧ P.S j ≤ 10000)) then 3 else if ¬ (0 ≤ P.train ∧ P.train ≤ 100000000) then 4 else if ¬ (0 ≤ P.fin ∧ P.fin ≤ P.total) then 5 else if ¬ (0 ≤ P.delay ∧ P.delay ≤ 20) then 6 else 0
structure Prof.Ok (P : Prof) : Prop where
  counts : P.Counts
  pieces : P.PiecesOk
  zones : P.ZonesOk
  train : 0 ≤ P.train ∧ P.train ≤ 100000000
  fin : 0 ≤ P.fin ∧ P.fin ≤ P.total
  delay : 0 ≤ P.delay ∧ P.delay ≤ 20
theorem code_1 {P : Prof} (h : ¬ P.Counts) : P.code = 1 := by unfold Prof.code; exact (if_pos h)
theorem code_2 {P : Prof} (h : P.Counts) (g : ¬ P.PiecesOk) : P.code = 2 := by unfold Prof.code; exact ((if_neg (fun c => c h)).trans (if_pos g))
theorem code_3 {P : Prof} (h : P.Counts) (g : P.PiecesOk) (k : ¬ P.ZonesOk) : P.code = 3 := by unfold Prof.code; exact ((if_neg (fun c => c h)).trans ((if_neg (fun c => c g)).trans (if_pos k)))
theorem code_4 {P : Prof} (h : P.Counts) (g : P.PiecesOk) (k : P.ZonesOk) (t : ¬ (0 ≤ P.train ∧ P.train ≤ 100000000)) : P.code = 4 := by unfold Prof.code; exact ((if_neg (fun c => c h)).trans ((if_neg (fun c => c g)).trans ((if_neg (fun c => c k)).trans (if_pos t))))
theorem code_5 {P : Prof} (h : P.Counts) (g : P.PiecesOk) (k : P.ZonesOk) (t : 0 ≤ P.train ∧ P.train ≤ 100000000) (f : ¬ (0 ≤ P.fin ∧ P.fin ≤ P.total)) : P.code = 5 := by
  unfold Prof.code; exact ((if_neg (fun c => c h)).trans ((if_neg (fun c => c g)).trans ((if_neg (fun c => c k)).trans ((if_neg (fun c => c t)).trans (if_pos f)))))
theorem code_6 {P : Prof} (h : P.Counts) (g : P.PiecesOk) (k : P.ZonesOk) (t : 0 ≤ P.train ∧ P.train ≤ 100000000) (f : 0 ≤ P.fin ∧ P.fin ≤ P.total) (d : ¬ (0 ≤ P.delay ∧ P.delay ≤ 20)) : P.code = 6 := by
  unfold Prof.code; exact ((if_neg (fun c => c h)).trans ((if_neg (fun c => c g)).trans ((if_neg (fun c => c k)).trans ((if_neg (fun c => c t)).trans ((if_neg (fun c => c f)).trans (if_pos d))))))
theorem code_0 {P : Prof} (h : P.Counts) (g : P.PiecesOk) (k : P.ZonesOk) (t : 0 ≤ P.train ∧ P.train ≤ 100000000) (f : 0 ≤ P.fin ∧ P.fin ≤ P.total) (d : 0 ≤ P.delay ∧ P.delay ≤ 20) : P.code = 0 := by
  unfold Prof.code; exact ((if_neg (fun c => c h)).trans ((if_neg (fun c => c g)).trans ((if_neg (fun c => c k)).trans ((if_neg (fun c => c t)).trans ((if_neg (fun c => c f)).trans (if_neg (fun c => c d)))))))
theorem Prof.code_zero {P : Prof} : P.code = 0 ↔ P.Ok := by
  constructor
  · intro h
    have h1 : P.Counts := Classical.byContradiction fun c => by rw [code_1 c] at h; omega
    have h2 : P.PiecesOk := Classical.byContradiction fun c => by rw [code_2 h1 c] at h; omega
    have h3 : P.ZonesOk := Classical.byContradiction fun c => by rw [code_3 h1 h2 c] at h; omega
    have h4 : 0 ≤ P.train ∧ P.train ≤ 100000000 := Classical.byContradiction fun c => by rw [code_4 h1 h2 h3 c] at h; omega
    have h5 : 0 ≤ P.fin ∧ P.fin ≤ P.total := Classical.byContradiction fun c => by rw [code_5 h1 h2 h3 h4 c] at h; omega
    have h6 : 0 ≤ P.delay ∧ P.delay ≤ 20 := Classical.byContradiction fun c => by rw [code_6 h1 h2 h3 h4 h5 c] at h; omega
    exact ⟨h1, h2, h3, h4, h5, h6⟩
  · rintro ⟨h1, h2, h3, h4, h5, h6⟩
    exact code_0 h1 h2 h3 h4 h5 h6
theorem Prof.code_ok {P : Prof} (h : P.Ok) : P.code = 0 := Prof.code_zero.2 h
theorem Prof.Ok.lens {P : Prof} (h : P.Ok) : P.Lens := ⟨h.counts.2.1, fun j hj => (h.pieces j hj).1⟩
theorem Prof.lens_of {P : Prof} (h : P.Counts) (g : P.PiecesOk) : P.Lens := ⟨h.2.1, fun j hj => (g j hj).1⟩
theorem Prof.code_bounds (P : Prof) : 0 ≤ P.code ∧ P.code ≤ 6 := by
  unfold Prof.code
  repeat' split
  all_goals omega

/-- A row of pairs: empty, or cells. -/
def Row2 (w : World) (a : Option Addr) (n : Nat) (L B : Nat → Int) : Prop :=
  n = 0 ∨ ∃ b off, a = some ⟨b, off, none⟩ ∧ b < w.heap.size ∧ ∀ j, j < n → w.cell? ⟨b, off + j * 2, none⟩ = some (.int .i64 (L j)) ∧ w.cell? ⟨b, off + j * 2 + 1, none⟩ = some (.int .i64 (B j))
/-- A row of triples. -/
def Row3 (w : World) (a : Option Addr) (n : Nat) (F T S : Nat → Int) : Prop :=
  n = 0 ∨ ∃ b off, a = some ⟨b, off, none⟩ ∧ b < w.heap.size ∧ ∀ j, j < n → w.cell? ⟨b, off + j * 3, none⟩ = some (.int .i64 (F j)) ∧ w.cell? ⟨b, off + j * 3 + 1, none⟩ = some (.int .i64 (T j)) ∧ w.cell? ⟨b, off + j * 3 + 2, none⟩ = some (.int .i64 (S j))

theorem Row2.below {w w1 : World} {a : Option Addr} {n : Nat} {L B : Nat → Int} (h : Row2 w a n L B) (hb : Below w.heap.size w w1) : Row2 w1 a n L B := by
  rcases h with h | ⟨b, off, rfl, hlt, hc⟩
  · exact Or.inl h
  · exact Or.inr ⟨b, off, rfl, Nat.lt_of_lt_of_le hlt hb.size, fun j hj => ⟨by rw [hb.cell hlt]; exact (hc j hj).1, by rw [hb.cell hlt]; exact (hc j hj).2⟩⟩
theorem Row3.below {w w1 : World} {a : Option Addr} {n : Nat} {F T S : Nat → Int} (h : Row3 w a n F T S) (hb : Below w.heap.size w w1) : Row3 w1 a n F T S := by
  rcases h with h | ⟨b, off, rfl, hlt, hc⟩
  · exact Or.inl h
  · exact Or.inr ⟨b, off, rfl, Nat.lt_of_lt_of_le hlt hb.size, fun j hj => ⟨by rw [hb.cell hlt]; exact (hc j hj).1, by rw [hb.cell hlt]; exact (hc j hj).2.1, by rw [hb.cell hlt]; exact (hc j hj).2.2⟩⟩

/-- The value is that profile, in that world. -/
def Prof.Lies (P : Prof) (w : World) (v : Value) : Prop :=
  ∃ ap cp az cz, v = .agg #[.slice ap P.np cp, .slice az P.nz cz, .int .i64 P.train, .int .i64 P.fin, .int .i64 P.delay] ∧ (P.np ≤ 9223372036854775807 ∧ P.np ≤ cp) ∧ P.nz ≤ 9223372036854775807 ∧ Row2 w ap P.np P.L P.B ∧ Row3 w az P.nz P.F P.T P.S

theorem Prof.Lies.below {P : Prof} {w w1 : World} {v : Value} (h : P.Lies w v) (hb : Below w.heap.size w w1) : P.Lies w1 v := by
  obtain ⟨ap, cp, az, cz, rfl, h1, h2, h3, h4⟩ := h
  exact ⟨ap, cp, az, cz, rfl, h1, h2, h3.below hb, h4.below hb⟩

/-- A variable that holds the profile. -/
def Prof.BoxAt (P : Prof) (w : World) (n : Nat) (ap az : Option Addr) (cp cz : Nat) : Prop :=
  w.cell? ⟨n, 0, none⟩ = some (.slice ap P.np cp) ∧ w.cell? ⟨n, 1, none⟩ = some (.slice az P.nz cz) ∧ w.cell? ⟨n, 2, none⟩ = some (.int .i64 P.train) ∧ w.cell? ⟨n, 3, none⟩ = some (.int .i64 P.fin) ∧ w.cell? ⟨n, 4, none⟩ = some (.int .i64 P.delay)
theorem Prof.BoxAt.lt {P : Prof} {w : World} {n : Nat} {ap az : Option Addr} {cp cz : Nat} (h : P.BoxAt w n ap az cp cz) : n < w.heap.size := World.block_lt_of_cell? _ _ h.1
theorem Prof.BoxAt.below {P : Prof} {w w1 : World} {n : Nat} {ap az : Option Addr} {cp cz : Nat} (h : P.BoxAt w n ap az cp cz) (hb : Below w.heap.size w w1) : P.BoxAt w1 n ap az cp cz := by
  have hn := h.lt
  obtain ⟨h0, h1, h2, h3, h4⟩ := h
  refine ⟨?_, ?_, ?_, ?_, ?_⟩ <;> (rw [hb.cell hn]; assumption)

theorem Calls.regrown_same {P : Program} {f : FuncId} {args : Array Value} {w : World} {d : Nat} {os : Array Obj} {v : Value}
    (h : Calls P f args (grow (redrawn w d) os) fun e w' => e = .returned v ∧ w' = grow (redrawn w d) os) : Calls P f args (grow (redrawn w d) os) fun e w'' => e = .returned v ∧ ∃ p : Regrown, w'' = grow (redrawn w p.d) p.os :=
  h.mono fun _ _ ⟨he, hw⟩ => ⟨he, ⟨d, os⟩, hw⟩

end Go.Proofs.YteodefmpkljedaaDoor
