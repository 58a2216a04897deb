/-
  The bounds of a course, sorted: slices.SortFunc at triples of ints by their first.
-/
import Derived.Shelf.SlSortCmp.WholeK
import Derived.Shelf.SlicesG.Cmp
import Derived.Ground.SlsfProg
import Derived.Ground.SlgcProg
import Derived.Test.YteodefmpkljedabCourse1
namespace Go.Proofs.Yteodefmpkljedab
open Go.Shelf Go.Lib
set_option linter.unusedVariables false

def Try.sortB_ren : Go.Shelf.Ren := ⟨fun | 6 => 117 | 15 => 134 | 14 => 133 | 28 => 145 | 29 => 146 | 20 => 137 | 21 => 138 | 22 => 139 | 23 => 140 | 24 => 141 | 25 => 142 | 26 => 143 | 27 => 144 | 46 => 147 | 47 => 148 | 48 => 149 | 49 => 150 | 50 => 151 | 57 => 152 | n => n, fun | 22 => 92 | 24 => 142 | 25 => 144 | 3 => 3 | 39 => 163 | 0 => 0 | 53 => 173 | 55 => 175 | 4 => 4 | 46 => 166 | 45 => 165 | 50 => 170 | 5 => 5 | 9 => 9 | 66 => 176 | 70 => 180 | 76 => 182 | 77 => 65 | n => n, fun | n => n⟩
theorem Try.sortB : Go.Proofs.SlLaysF0.n6 Try.prog Try.sortB_ren := {
  mixed := by kernel_rfl
  f6 := ⟨Try.f117.name, by decide, Try.func117.trans (congrArg some (by kernel_rfl))⟩
  f14 := ⟨Try.f133.name, by decide, Try.func133.trans (congrArg some (by kernel_rfl))⟩
  f15 := Try.func134.trans (congrArg some (by kernel_rfl))
  f20 := ⟨Try.f137.name, by decide, Try.func137.trans (congrArg some (by kernel_rfl))⟩
  f21 := ⟨Try.f138.name, by decide, Try.func138.trans (congrArg some (by kernel_rfl))⟩
  f22 := ⟨Try.f139.name, by decide, Try.func139.trans (congrArg some (by kernel_rfl))⟩
  f23 := ⟨Try.f140.name, by decide, Try.func140.trans (congrArg some (by kernel_rfl))⟩
  f24 := ⟨Try.f141.name, by decide, Try.func141.trans (congrArg some (by kernel_rfl))⟩
  f25 := ⟨Try.f142.name, by decide, Try.func142.trans (congrArg some (by kernel_rfl))⟩
  f26 := ⟨Try.f143.name, by decide, Try.func143.trans (congrArg some (by kernel_rfl))⟩
  f27 := ⟨Try.f144.name, by decide, Try.func144.trans (congrArg some (by kernel_rfl))⟩
  f28 := Try.func145.trans (congrArg some (by kernel_rfl))
  f29 := Try.func146.trans (congrArg some (by kernel_rfl))
  f46 := ⟨Try.f147.name, by decide, Try.func147.trans (congrArg some (by kernel_rfl))⟩
  f47 := Try.func148.trans (congrArg some (by kernel_rfl))
  f48 := Try.func149.trans (congrArg some (by kernel_rfl))
  f49 := ⟨Try.f150.name, by decide, Try.func150.trans (congrArg some (by kernel_rfl))⟩
  f50 := ⟨Try.f151.name, by decide, Try.func151.trans (congrArg some (by kernel_rfl))⟩
  f57 := ⟨Try.f152.name, by decide, Try.func152.trans (congrArg some (by kernel_rfl))⟩
  t0 := Try.underlying0
  a0 := Try.isAgg0
  z0 := Try.sizeOf0
  v0 := Try.zeroValue0
  t3 := Try.underlying3
  a3 := Try.isAgg3
  z3 := Try.sizeOf3
  v3 := Try.zeroValue3
  t4 := Try.underlying4
  a4 := Try.isAgg4
  z4 := Try.sizeOf4
  v4 := Try.zeroValue4
  t5 := Try.underlying5
  a5 := Try.isAgg5
  z5 := Try.sizeOf5
  v5 := Try.zeroValue5
  t9 := Try.underlying9
  a9 := Try.isAgg9
  z9 := Try.sizeOf9
  v9 := Try.zeroValue9
  t22 := Try.underlying92
  a22 := Try.isAgg92
  z22 := Try.sizeOf92
  v22 := Try.zeroValue92
  t25 := Try.underlying144
  a25 := Try.isAgg144
  z25 := Try.sizeOf144
  v25 := Try.zeroValue144
  t39 := Try.underlying163
  a39 := Try.isAgg163
  z39 := Try.sizeOf163
  v39 := Try.zeroValue163
  t45 := Try.underlying165
  a45 := Try.isAgg165
  z45 := Try.sizeOf165
  v45 := Try.zeroValue165
  t46 := Try.underlying166
  a46 := Try.isAgg166
  z46 := Try.sizeOf166
  v46 := Try.zeroValue166
  t50 := Try.underlying170
  a50 := Try.isAgg170
  z50 := Try.sizeOf170
  v50 := Try.zeroValue170
  t53 := Try.underlying173
  a53 := Try.isAgg173
  z53 := Try.sizeOf173
  v53 := Try.zeroValue173
  t55 := Try.underlying175
  a55 := Try.isAgg175
  z55 := Try.sizeOf175
  v55 := Try.zeroValue175
  t66 := Try.underlying176
  a66 := Try.isAgg176
  z66 := Try.sizeOf176
  v66 := Try.zeroValue176
  t70 := Try.underlying180
  a70 := Try.isAgg180
  z70 := Try.sizeOf180
  v70 := Try.zeroValue180
  t76 := Try.underlying182
  a76 := Try.isAgg182
  z76 := Try.sizeOf182
  v76 := Try.zeroValue182
  t77 := Try.underlying65
  a77 := Try.isAgg65
  z77 := Try.sizeOf65
  v77 := Try.zeroValue65 }
def Try.cmpB_ren : Go.Shelf.Ren := ⟨fun | 5 => 119 | 7 => 135 | n => n, fun | 22 => 3 | 3 => 3 | 4 => 4 | n => n, fun | n => n⟩
theorem Try.cmpB : Go.Proofs.SlLaysC2.n5 Try.prog Try.cmpB_ren := {
  mixed := by kernel_rfl
  f5 := ⟨Try.f119.name, by decide, Try.func119.trans (congrArg some (by kernel_rfl))⟩
  f7 := ⟨Try.f135.name, by decide, Try.func135.trans (congrArg some (by kernel_rfl))⟩
  t3 := Try.underlying3
  a3 := Try.isAgg3
  z3 := Try.sizeOf3
  v3 := Try.zeroValue3
  t4 := Try.underlying4
  a4 := Try.isAgg4
  z4 := Try.sizeOf4
  v4 := Try.zeroValue4
  t22 := Try.underlying3
  a22 := Try.isAgg3
  z22 := Try.sizeOf3
  v22 := Try.zeroValue3 }


def encB (x : Int × Int × Int) : List Value := [.int .i64 x.1, .int .i64 x.2.1, .int .i64 x.2.2]
def cmpB (x y : Int × Int × Int) : Int := Lib.compareInt x.1 y.1

set_option maxHeartbeats 1000000 in
theorem closureB (x y : Int × Int × Int) (W : World) : Calls Try.prog 118 #[.agg #[.int .i64 x.1, .int .i64 x.2.1, .int .i64 x.2.2], .agg #[.int .i64 y.1, .int .i64 y.2.1, .int .i64 y.2.2]] W fun e w' => e = .returned (.int .i64 (Lib.compareInt x.1 y.1)) ∧ ∃ q os', w' = Sort.grow (W.drewN q) os' := by
  have hcon := fun W' => AnyG.cmp_Compare_int Try.cmpB x.1 y.1 W'
  change ∀ W', Calls Try.prog 119 _ _ _ at hcon
  generalize Lib.compareInt x.1 y.1 = r at hcon ⊢
  go_enter Try.func118, Try.ntmps118
  go_wp2_with (go_at_call 119; refine (hcon _).mono ?_; rintro e w' ⟨rfl, rfl⟩)
  go_ret
  exact ⟨rfl, 0, _, by rw [Sort.alloc_eq_grow, Sort.alloc_eq_grow, Sort.grow_grow]; rfl⟩

theorem ltB (x y : Int × Int × Int) : ltOf cmpB x y = decide (x.1 < y.1) := by
  unfold ltOf cmpB Lib.compareInt
  by_cases h1 : x.1 < y.1
  · simp [h1]
  · by_cases h2 : y.1 < x.1 <;> simp [h1, h2]
theorem swoB : Sort.SWO (ltOf cmpB) where
  irrefl x := by rw [ltB]; simp
  trans x y z h1 h2 := by rw [ltB] at *; simp at *; omega
  ntrans x y z h1 h2 := by rw [ltB] at *; simp at *; omega

theorem below_sorted {α : Type} [Inhabited α] (enc : α → List Value) (k : Nat) (w : World) (blk off n : Nat) (d : Array α) (os : Array Obj) (B : Nat) (hB : B ≤ blk) (hs : B ≤ w.heap.size) : RowKit.Below B w (sortWorldK enc k w blk off n d os) := by
  have h1 : (Sort.putRowK enc k (Sort.ahead w n) blk off d).heap.size = w.heap.size := by rw [Sort.size_putRowK]; rfl
  refine ⟨rfl, rfl, rfl, by unfold sortWorldK; rw [Sort.size_grow, h1]; omega, fun j hj => ?_⟩
  unfold sortWorldK
  rw [Sort.heap_grow_old _ _ (by rw [h1]; omega)]
  show (w.heap.modify blk _)[j]? = _
  rw [Array.getElem?_modify, if_neg (by omega)]

/-- The bounds in the order in which they are laid, as a row. -/
def Prof.boundsA (P : Prof) : Array (Int × Int × Int) := (Array.range (P.nz + 1)).map P.bound
theorem Prof.boundsA_size (P : Prof) : P.boundsA.size = P.nz + 1 := by simp [Prof.boundsA]
theorem Prof.boundsA_get (P : Prof) (i : Nat) (h : i ≤ P.nz) : P.boundsA[i]! = P.bound i := by
  have : i < P.nz + 1 := by omega
  simp [Prof.boundsA, this]
theorem Prof.bounds_of {P : Prof} {d : Array (Int × Int × Int)} (hp : Sort.PermIn 0 P.boundsA.size P.boundsA d) (hs : Sort.SortedIn (ltOf cmpB) 0 P.boundsA.size d) : d.size = P.nz + 1 ∧ P.Bounds (P.nz + 1) (fun i => d[i]!) := by
  obtain ⟨h1, h2, h3⟩ := hp
  rw [P.boundsA_size] at h1 h3 hs
  have e1 : (d.extract 0 (P.nz + 1)) = d := by rw [← h1]; simp
  have e2 : (P.boundsA.extract 0 (P.nz + 1)) = P.boundsA := by rw [← P.boundsA_size]; simp
  rw [e1, e2] at h3
  refine ⟨h1, ?_, ?_, ?_⟩
  · intro i j hij hj
    by_cases c : i = j
    · subst c; exact Int.le_refl _
    · have := hs i j (by omega) (by omega) hj
      rw [ltB] at this
      simp at this
      exact this
  · intro j hj
    have hm : P.bound j ∈ d.toList := h3.symm.subset (by
      have : P.bound j ∈ P.boundsA := by
        unfold Prof.boundsA
        simp only [Array.mem_map, Array.mem_range]
        exact ⟨j, by omega, rfl⟩
      simpa using this)
    obtain ⟨i, hi, e⟩ := List.getElem_of_mem hm
    have hi' : i < d.size := by simpa using hi
    refine ⟨i, by omega, ?_⟩
    show d[i]! = _
    rw [getElem!_pos d i hi', ← e]; simp
  · intro i hi
    have hi' : i < d.size := by omega
    have hm : d[i]! ∈ P.boundsA.toList := h3.subset (by rw [getElem!_pos d i hi']; simp)
    have : d[i]! ∈ P.boundsA := by simpa using hm
    unfold Prof.boundsA at this
    simp only [Array.mem_map, Array.mem_range] at this
    obtain ⟨j, hj, e⟩ := this
    exact ⟨j, by omega, e.symm⟩

/-- The sort of a course's bounds. -/
theorem sortB_any (P : Prof) (blk cap : Nat) (w : World) (hblk : blk < w.heap.size) (hn : P.nz ≤ 60)
    (hc : ∀ i, i ≤ P.nz → (w.cell? ⟨blk, i * 3, none⟩ = some (.int .i64 (P.bound i).1) ∧ w.cell? ⟨blk, i * 3 + 1, none⟩ = some (.int .i64 (P.bound i).2.1) ∧ w.cell? ⟨blk, i * 3 + 2, none⟩ = some (.int .i64 (P.bound i).2.2)))
    (hf : ∀ j, w.frozen? ⟨blk, j, none⟩ = false) :
    Calls Try.prog 117 #[.slice (some ⟨blk, 0, none⟩) (P.nz + 1 : Nat) cap, .func (.func 118) #[] #[]] w fun e w' => e = .returned (.tuple #[]) ∧ ∃ b, P.Bounds (P.nz + 1) b ∧ BRow w' blk (P.nz + 1) b ∧ (∀ B, B ≤ blk → RowKit.Below B w w') := by
  have eg : ∀ args w, (callFunc 118 args).run Try.prog w = .ok (.enter 118 args) w := enters_of Try.func118 (by kernel_rfl) rfl
  have hH : Sort.HoldsK encB 3 w blk 0 P.boundsA := by
    intro t ht
    have ht' : t < P.boundsA.size * 3 := by simpa using ht
    rw [P.boundsA_size] at ht'
    have hq : t / 3 ≤ P.nz := by omega
    obtain ⟨c0, c1, c2⟩ := hc (t / 3) hq
    rw [Sort.get_flatK _ _ _ _ (by rw [P.boundsA_size]; exact ht'), P.boundsA_get _ hq, Nat.zero_add]
    refine ⟨?_, hf _⟩
    have h3 : t % 3 = 0 ∨ t % 3 = 1 ∨ t % 3 = 2 := by omega
    rcases h3 with h | h | h
    · rw [h, show t = t / 3 * 3 by omega, show t / 3 * 3 / 3 = t / 3 by omega]; exact c0
    · rw [h, show t = t / 3 * 3 + 1 by omega, show (t / 3 * 3 + 1) / 3 = t / 3 by omega]; exact c1
    · rw [h, show t = t / 3 * 3 + 2 by omega, show (t / 3 * 3 + 2) / 3 = t / 3 by omega]; exact c2
  have hcon := AnyQ.slices_SortFunc Try.sortB 3 Try.isAgg142 Try.sizeOf142 encB (fun _ => rfl) (fun x v hv => by simp [encB] at hv; rcases hv with rfl | rfl | rfl <;> rfl) cmpB swoB 118 #[] blk 0 cap P.boundsA w eg (fun _ _ _ _ x y => closureB x y _) hH hblk (by rw [P.boundsA_size]; omega)
  change Calls Try.prog 117 _ _ _ at hcon
  rw [P.boundsA_size] at hcon
  refine hcon.mono ?_
  rintro e w' ⟨rfl, d, n, os, hp, hs, rfl⟩
  rw [← P.boundsA_size] at hp hs
  obtain ⟨hd, hB⟩ := P.bounds_of hp hs
  have hH2 := holdsK_sortWorldK_c encB 3 w blk 0 P.boundsA d n os hH hblk (by rw [hd, P.boundsA_size])
  refine ⟨rfl, _, hB, ⟨?_, fun i hi => ?_⟩, fun B hB => below_sorted encB 3 w blk 0 n d os B hB (by omega)⟩
  · exact Nat.lt_of_lt_of_le hblk (size_sortWorldK_c encB 3 w blk 0 n d os)
  · have h0 := (hH2.cell (i := i) (c := 0) (by omega) (by omega)).1
    have h1 := (hH2.cell (i := i) (c := 1) (by omega) (by omega)).1
    have h2 := (hH2.cell (i := i) (c := 2) (by omega) (by omega)).1
    simp only [Nat.zero_add, Nat.add_zero] at h0 h1 h2
    exact ⟨h0, h1, h2⟩

end Go.Proofs.Yteodefmpkljedab
