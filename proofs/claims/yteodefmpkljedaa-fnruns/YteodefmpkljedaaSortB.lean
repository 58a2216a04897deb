/-
  The bounds of a course, sorted: slices.SortFunc at triples of ints by their first.
-/
import Derived.Shelf.SlSortCmp.WholeK
import Derived.Shelf.SlicesG.Cmp
import Derived.Ground.SlsfProg
import Derived.Ground.SlgcProg
import Derived.Test.YteodefmpkljedaaCourse1
namespace Go.Proofs.Yteodefmpkljedaa
open Go.Shelf Go.Lib
set_option linter.unusedVariables false

def Try.sortB_ren : Go.Shelf.Ren := ⟨fun | 6 => 97 | 15 => 115 | 14 => 114 | 28 => 126 | 29 => 127 | 20 => 118 | 21 => 119 | 22 => 120 | 23 => 121 | 24 => 122 | 25 => 123 | 26 => 124 | 27 => 125 | 46 => 129 | 47 => 130 | 48 => 131 | 49 => 132 | 50 => 133 | 57 => 135 | n => n, fun | 22 => 69 | 24 => 122 | 25 => 124 | 3 => 3 | 39 => 143 | 0 => 0 | 53 => 155 | 55 => 61 | 4 => 4 | 46 => 148 | 45 => 147 | 50 => 152 | 5 => 5 | 9 => 9 | 66 => 158 | 70 => 162 | 76 => 164 | 77 => 86 | n => n, fun | n => n⟩
theorem Try.sortB : Go.Proofs.SlLaysF0.n6 Try.prog Try.sortB_ren := {
  mixed := by kernel_rfl
  f6 := ⟨Try.f97.name, by decide, Try.func97.trans (congrArg some (by kernel_rfl))⟩
  f14 := ⟨Try.f114.name, by decide, Try.func114.trans (congrArg some (by kernel_rfl))⟩
  f15 := Try.func115.trans (congrArg some (by kernel_rfl))
  f20 := ⟨Try.f118.name, by decide, Try.func118.trans (congrArg some (by kernel_rfl))⟩
  f21 := ⟨Try.f119.name, by decide, Try.func119.trans (congrArg some (by kernel_rfl))⟩
  f22 := ⟨Try.f120.name, by decide, Try.func120.trans (congrArg some (by kernel_rfl))⟩
  f23 := ⟨Try.f121.name, by decide, Try.func121.trans (congrArg some (by kernel_rfl))⟩
  f24 := ⟨Try.f122.name, by decide, Try.func122.trans (congrArg some (by kernel_rfl))⟩
  f25 := ⟨Try.f123.name, by decide, Try.func123.trans (congrArg some (by kernel_rfl))⟩
  f26 := ⟨Try.f124.name, by decide, Try.func124.trans (congrArg some (by kernel_rfl))⟩
  f27 := ⟨Try.f125.name, by decide, Try.func125.trans (congrArg some (by kernel_rfl))⟩
  f28 := Try.func126.trans (congrArg some (by kernel_rfl))
  f29 := Try.func127.trans (congrArg some (by kernel_rfl))
  f46 := ⟨Try.f129.name, by decide, Try.func129.trans (congrArg some (by kernel_rfl))⟩
  f47 := Try.func130.trans (congrArg some (by kernel_rfl))
  f48 := Try.func131.trans (congrArg some (by kernel_rfl))
  f49 := ⟨Try.f132.name, by decide, Try.func132.trans (congrArg some (by kernel_rfl))⟩
  f50 := ⟨Try.f133.name, by decide, Try.func133.trans (congrArg some (by kernel_rfl))⟩
  f57 := ⟨Try.f135.name, by decide, Try.func135.trans (congrArg some (by kernel_rfl))⟩
  t0 := Try.underlying0
  a0 := Try.isAgg0
  z0 := Try.sizeOf0
  v0 := Try.zeroValue0
  t3 := Try.underlying3
  a3 := Try.isAgg3
  z3 := Try.sizeOf3
  v3 := Try.zeroValue3
  t4 := Try.underlying4
  a4 := Try.isAgg4
  z4 := Try.sizeOf4
  v4 := Try.zeroValue4
  t5 := Try.underlying5
  a5 := Try.isAgg5
  z5 := Try.sizeOf5
  v5 := Try.zeroValue5
  t9 := Try.underlying9
  a9 := Try.isAgg9
  z9 := Try.sizeOf9
  v9 := Try.zeroValue9
  t22 := Try.underlying69
  a22 := Try.isAgg69
  z22 := Try.sizeOf69
  v22 := Try.zeroValue69
  t25 := Try.underlying124
  a25 := Try.isAgg124
  z25 := Try.sizeOf124
  v25 := Try.zeroValue124
  t39 := Try.underlying143
  a39 := Try.isAgg143
  z39 := Try.sizeOf143
  v39 := Try.zeroValue143
  t45 := Try.underlying147
  a45 := Try.isAgg147
  z45 := Try.sizeOf147
  v45 := Try.zeroValue147
  t46 := Try.underlying148
  a46 := Try.isAgg148
  z46 := Try.sizeOf148
  v46 := Try.zeroValue148
  t50 := Try.underlying152
  a50 := Try.isAgg152
  z50 := Try.sizeOf152
  v50 := Try.zeroValue152
  t53 := Try.underlying155
  a53 := Try.isAgg155
  z53 := Try.sizeOf155
  v53 := Try.zeroValue155
  t55 := Try.underlying61
  a55 := Try.isAgg61
  z55 := Try.sizeOf61
  v55 := Try.zeroValue61
  t66 := Try.underlying158
  a66 := Try.isAgg158
  z66 := Try.sizeOf158
  v66 := Try.zeroValue158
  t70 := Try.underlying162
  a70 := Try.isAgg162
  z70 := Try.sizeOf162
  v70 := Try.zeroValue162
  t76 := Try.underlying164
  a76 := Try.isAgg164
  z76 := Try.sizeOf164
  v76 := Try.zeroValue164
  t77 := Try.underlying86
  a77 := Try.isAgg86
  z77 := Try.sizeOf86
  v77 := Try.zeroValue86 }
def Try.cmpB_ren : Go.Shelf.Ren := ⟨fun | 5 => 99 | 7 => 116 | n => n, fun | 22 => 3 | 3 => 3 | 4 => 4 | n => n, fun | n => n⟩
theorem Try.cmpB : Go.Proofs.SlLaysC2.n5 Try.prog Try.cmpB_ren := {
  mixed := by kernel_rfl
  f5 := ⟨Try.f99.name, by decide, Try.func99.trans (congrArg some (by kernel_rfl))⟩
  f7 := ⟨Try.f116.name, by decide, Try.func116.trans (congrArg some (by kernel_rfl))⟩
  t3 := Try.underlying3
  a3 := Try.isAgg3
  z3 := Try.sizeOf3
  v3 := Try.zeroValue3
  t4 := Try.underlying4
  a4 := Try.isAgg4
  z4 := Try.sizeOf4
  v4 := Try.zeroValue4
  t22 := Try.underlying3
  a22 := Try.isAgg3
  z22 := Try.sizeOf3
  v22 := Try.zeroValue3 }


def encB (x : Int × Int × Int) : List Value := [.int .i64 x.1, .int .i64 x.2.1, .int .i64 x.2.2]
def cmpB (x y : Int × Int × Int) : Int := Lib.compareInt x.1 y.1

set_option maxHeartbeats 1000000 in
theorem closureB (x y : Int × Int × Int) (W : World) : Calls Try.prog 98 #[.agg #[.int .i64 x.1, .int .i64 x.2.1, .int .i64 x.2.2], .agg #[.int .i64 y.1, .int .i64 y.2.1, .int .i64 y.2.2]] W fun e w' => e = .returned (.int .i64 (Lib.compareInt x.1 y.1)) ∧ ∃ q os', w' = Sort.grow (W.drewN q) os' := by
  have hcon := fun W' => AnyG.cmp_Compare_int Try.cmpB x.1 y.1 W'
  change ∀ W', Calls Try.prog 99 _ _ _ at hcon
  generalize Lib.compareInt x.1 y.1 = r at hcon ⊢
  go_enter Try.func98, Try.ntmps98
  go_wp2_with (go_at_call 99; refine (hcon _).mono ?_; rintro e w' ⟨rfl, rfl⟩)
  go_ret
  exact ⟨rfl, 0, _, by rw [Sort.alloc_eq_grow, Sort.alloc_eq_grow, Sort.grow_grow]; rfl⟩

theorem ltB (x y : Int × Int × Int) : ltOf cmpB x y = decide (x.1 < y.1) := by
  unfold ltOf cmpB Lib.compareInt
  by_cases h1 : x.1 < y.1
  · simp [h1]
  · by_cases h2 : y.1 < x.1 <;> simp [h1, h2]
theorem swoB : Sort.SWO (ltOf cmpB) where
  irrefl x := by rw [ltB]; simp
  trans x y z h1 h2 := by rw [ltB] at *; simp at *; omega
  ntrans x y z h1 h2 := by rw [ltB] at *; simp at *; omega

theorem below_sorted {α : Type} [Inhabited α] (enc : α → List Value) (k : Nat) (w : World) (blk off n : Nat) (d : Array α) (os : Array Obj) (B : Nat) (hB : B ≤ blk) (hs : B ≤ w.heap.size) : RowKit.Below B w (sortWorldK enc k w blk off n d os) := by
  have h1 : (Sort.putRowK enc k (Sort.ahead w n) blk off d).heap.size = w.heap.size := by rw [Sort.size_putRowK]; rfl
  refine ⟨rfl, rfl, rfl, by unfold sortWorldK; rw [Sort.size_grow, h1]; omega, fun j hj => ?_⟩
  unfold sortWorldK
  rw [Sort.heap_grow_old _ _ (by rw [h1]; omega)]
  show (w.heap.modify blk _)[j]? = _
  rw [Array.getElem?_modify, if_neg (by omega)]

/-- The bounds in the order in which they are laid, as a row. -/
def Prof.boundsA (P : Prof) : Array (Int × Int × Int) := (Array.range (P.nz + 1)).map P.bound
theorem Prof.boundsA_size (P : Prof) : P.boundsA.size = P.nz + 1 := by simp [Prof.boundsA]
theorem Prof.boundsA_get (P : Prof) (i : Nat) (h : i ≤ P.nz) : P.boundsA[i]! = P.bound i := by
  have : i < P.nz + 1 := by omega
  simp [Prof.boundsA, this]
theorem Prof.bounds_of {P : Prof} {d : Array (Int × Int × Int)} (hp : Sort.PermIn 0 P.boundsA.size P.boundsA d) (hs : Sort.SortedIn (ltOf cmpB) 0 P.boundsA.size d) : d.size = P.nz + 1 ∧ P.Bounds (P.nz + 1) (fun i => d[i]!) := by
  obtain ⟨h1, h2, h3⟩ := hp
  rw [P.boundsA_size] at h1 h3 hs
  have e1 : (d.extract 0 (P.nz + 1)) = d := by rw [← h1]; simp
  have e2 : (P.boundsA.extract 0 (P.nz + 1)) = P.boundsA := by rw [← P.boundsA_size]; simp
  rw [e1, e2] at h3
  refine ⟨h1, ?_, ?_, ?_⟩
  · intro i j hij hj
    by_cases c : i = j
    · subst c; exact Int.le_refl _
    · have := hs i j (by omega) (by omega) hj
      rw [ltB] at this
      simp at this
      exact this
  · intro j hj
    have hm : P.bound j ∈ d.toList := h3.symm.subset (by
      have : P.bound j ∈ P.boundsA := by
        unfold Prof.boundsA
        simp only [Array.mem_map, Array.mem_range]
        exact ⟨j, by omega, rfl⟩
      simpa using this)
    obtain ⟨i, hi, e⟩ := List.getElem_of_mem hm
    have hi' : i < d.size := by simpa using hi
    refine ⟨i, by omega, ?_⟩
    show d[i]! = _
    rw [getElem!_pos d i hi', ← e]; simp
  · intro i hi
    have hi' : i < d.size := by omega
    have hm : d[i]! ∈ P.boundsA.toList := h3.subset (by rw [getElem!_pos d i hi']; simp)
    have : d[i]! ∈ P.boundsA := by simpa using hm
    unfold Prof.boundsA at this
    simp only [Array.mem_map, Array.mem_range] at this
    obtain ⟨j, hj, e⟩ := this
    exact ⟨j, by omega, e.symm⟩

/-- The sort of a course's bounds. -/
theorem sortB_any (P : Prof) (blk cap : Nat) (w : World) (hblk : blk < w.heap.size) (hn : P.nz ≤ 60)
    (hc : ∀ i, i ≤ P.nz → (w.cell? ⟨blk, i * 3, none⟩ = some (.int .i64 (P.bound i).1) ∧ w.cell? ⟨blk, i * 3 + 1, none⟩ = some (.int .i64 (P.bound i).2.1) ∧ w.cell? ⟨blk, i * 3 + 2, none⟩ = some (.int .i64 (P.bound i).2.2)))
    (hf : ∀ j, w.frozen? ⟨blk, j, none⟩ = false) :
    Calls Try.prog 97 #[.slice (some ⟨blk, 0, none⟩) (P.nz + 1 : Nat) cap, .func (.func 98) #[] #[]] w fun e w' => e = .returned (.tuple #[]) ∧ ∃ b, P.Bounds (P.nz + 1) b ∧ BRow w' blk (P.nz + 1) b ∧ (∀ B, B ≤ blk → RowKit.Below B w w') := by
  have eg : ∀ args w, (callFunc 98 args).run Try.prog w = .ok (.enter 98 args) w := enters_of Try.func98 (by kernel_rfl) rfl
  have hH : Sort.HoldsK encB 3 w blk 0 P.boundsA := by
    intro t ht
    have ht' : t < P.boundsA.size * 3 := by simpa using ht
    rw [P.boundsA_size] at ht'
    have hq : t / 3 ≤ P.nz := by omega
    obtain ⟨c0, c1, c2⟩ := hc (t / 3) hq
    rw [Sort.get_flatK _ _ _ _ (by rw [P.boundsA_size]; exact ht'), P.boundsA_get _ hq, Nat.zero_add]
    refine ⟨?_, hf _⟩
    have h3 : t % 3 = 0 ∨ t % 3 = 1 ∨ t % 3 = 2 := by omega
    rcases h3 with h | h | h
    · rw [h, show t = t / 3 * 3 by omega, show t / 3 * 3 / 3 = t / 3 by omega]; exact c0
    · rw [h, show t = t / 3 * 3 + 1 by omega, show (t / 3 * 3 + 1) / 3 = t / 3 by omega]; exact c1
    · rw [h, show t = t / 3 * 3 + 2 by omega, show (t / 3 * 3 + 2) / 3 = t / 3 by omega]; exact c2
  have hcon := AnyQ.slices_SortFunc Try.sortB 3 Try.isAgg122 Try.sizeOf122 encB (fun _ => rfl) (fun x v hv => by simp [encB] at hv; rcases hv with rfl | rfl | rfl <;> rfl) cmpB swoB 98 #[] blk 0 cap P.boundsA w eg (fun _ _ _ _ x y => closureB x y _) hH hblk (by rw [P.boundsA_size]; omega)
  change Calls Try.prog 97 _ _ _ at hcon
  rw [P.boundsA_size] at hcon
  refine hcon.mono ?_
  rintro e w' ⟨rfl, d, n, os, hp, hs, rfl⟩
  rw [← P.boundsA_size] at hp hs
  obtain ⟨hd, hB⟩ := P.bounds_of hp hs
  have hH2 := holdsK_sortWorldK_c encB 3 w blk 0 P.boundsA d n os hH hblk (by rw [hd, P.boundsA_size])
  refine ⟨rfl, _, hB, ⟨?_, fun i hi => ?_⟩, fun B hB => below_sorted encB 3 w blk 0 n d os B hB (by omega)⟩
  · exact Nat.lt_of_lt_of_le hblk (size_sortWorldK_c encB 3 w blk 0 n d os)
  · have h0 := (hH2.cell (i := i) (c := 0) (by omega) (by omega)).1
    have h1 := (hH2.cell (i := i) (c := 1) (by omega) (by omega)).1
    have h2 := (hH2.cell (i := i) (c := 2) (by omega) (by omega)).1
    simp only [Nat.zero_add, Nat.add_zero] at h0 h1 h2
    exact ⟨h0, h1, h2⟩

end Go.Proofs.Yteodefmpkljedaa
