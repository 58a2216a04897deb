/-
  errors.As at the program's own fault, its contract.
-/
import Derived.Test.YteodefmpkljedaaDoorImplAs0
namespace Go.Proofs.YteodefmpkljedaaDoor
open Go.RowKit Go.Extern.Stop Go.Stop Go.Extern
set_option linter.unusedVariables false
set_option linter.unusedSimpArgs false

theorem rls (v x : Value) : ReflectliteValue.set #[v, x] = (do
    let (some (dst, a, fl), some (src, b, _)) := (← ReflectliteValue.parts v, ← ReflectliteValue.parts x)
      | unsupported (.noEntry "extern/(internal/reflectlite.Value).Set.zeroValue")
    if fl / ReflectliteValue.flagAddr % 2 == 0 then unsupported (.noEntry "extern/(internal/reflectlite.Value).Set.unaddressable")
    let val ← loadVar src b
    if ← Rtype.directlyAssignable dst src then storeVar dst a val
    else if ← Rtype.implements dst src then
      if (← Rtype.kind src) == 20 then
        match val with
        | .nilIface => unsupported (.noEntry "extern/reflectlite: a nil value of one interface type handed on as a value of another")
        | _ => storeVar dst a val
      else storeVar dst a (.iface src val)
    else panicString ("reflectlite.Set: value of type " ++ (← Rtype.spelt src) ++ " is not assignable to type " ++ (← Rtype.spelt dst))
    pure (.tuple #[])) := rfl
theorem Tryd.setS (F b : Nat) (c m : Int) (x y : Value) (W : World) (hb0 : W.cell? ⟨b, 0, none⟩ = some (.int .i64 c)) (hb1 : W.cell? ⟨b, 1, none⟩ = some (.int .i64 m)) (ht0 : W.cell? ⟨F, 0, none⟩ = some x) (ht1 : W.cell? ⟨F, 1, none⟩ = some y) (hf : ∀ k, W.frozen? ⟨F, k, none⟩ = false) :
    (ReflectliteValue.set #[.agg #[.pointer (some ⟨5, 55, none⟩), .pointer (some ⟨F, 0, none⟩), .int .u64 409], .agg #[.pointer (some ⟨5, 55, none⟩), .pointer (some ⟨b, 0, none⟩), .int .u64 153]]).run Tryd.prog W
      = .ok (.tuple #[]) ((W.setCell ⟨F, 0, none⟩ (.int .i64 c)).setCell ⟨F, 1, none⟩ (.int .i64 m)) := by
  have hl : (loadCellsFrom ⟨b, 0, none⟩ 0 2 #[]).run Tryd.prog W = .ok #[.int .i64 c, .int .i64 m] W := by
    simp [loadCellsFrom, Addr.add, go_sem, hb0, hb1, Result.andThen]
  have hs : (storeCells ⟨F, 0, none⟩ [.int .i64 c, .int .i64 m]).run Tryd.prog W = .ok () ((W.setCell ⟨F, 0, none⟩ (.int .i64 c)).setCell ⟨F, 1, none⟩ (.int .i64 m)) := by
    have h1 : (W.setCell ⟨F, 0, none⟩ (.int .i64 c)).cell? ⟨F, 1, none⟩ = some y := by rw [World.cell?_setCell_other _ _ _ _ (by simp)]; exact ht1
    have h2 : (W.setCell ⟨F, 0, none⟩ (.int .i64 c)).frozen? ⟨F, 1, none⟩ = false := by simp [hf]
    simp only [storeCells, Addr.add, Sem.run_bind]
    rw [run_store Tryd.prog W _ _ _ (by rfl)]
    simp [ht0, hf, Result.andThen]
    rw [run_store Tryd.prog _ _ _ _ (by rfl)]
    simp [h1, h2, Result.andThen]
  rw [rls]
  simp only [Sem.run_bind, Tryd.partsSa, Tryd.partsS, Result.andThen]
  simp [ReflectliteValue.flagAddr, loadVar, isAgg, underlying, Tryd.underlying55, Result.andThen, Tryd.directS, Tryd.sizeS, storeVar, Value.cells, loadCells, hl, hs]

set_option maxRecDepth 20000 in
set_option maxHeartbeats 8000000 in
theorem as_hit (F : Nat) (c m : Int) (x y : Value) (w : World) (hg : w.cell? ⟨1, 0, none⟩ = some (.iface 107 (.agg #[.pointer (some ⟨5, 51, none⟩)]))) (ht0 : w.cell? ⟨F, 0, none⟩ = some x) (ht1 : w.cell? ⟨F, 1, none⟩ = some y) (hf0 : ∀ k, w.frozen? ⟨F, k, none⟩ = false) :
    Calls Tryd.prog 20 #[.iface 55 (.agg #[.int .i64 c, .int .i64 m]), .iface 57 (.pointer (some ⟨F, 0, none⟩))] w fun ev w' => ev = .returned (.bool true) ∧ ∃ W, w' = (W.setCell ⟨F, 0, none⟩ (.int .i64 c)).setCell ⟨F, 1, none⟩ (.int .i64 m) ∧ Below w.heap.size w W := by
  have h42 := @run_callFunc_extern Tryd.prog 42 _ (fun args => ReflectliteValue.unpack (args.getD 0 (.tuple #[]))) Tryd.func42 (by kernel_rfl) (by kernel_rfl) (by kernel_rfl) (by kernel_rfl)
  have h43 := @run_callFunc_extern Tryd.prog 43 _ (ReflectliteValue.methodAny (ReflectliteValue.valueError "reflectlite.Value.Type" 0) (fun t _ _ _ => ReflectliteType.toType t)) Tryd.func43 (by kernel_rfl) (by kernel_rfl) (by kernel_rfl) (by kernel_rfl)
  have h44 := @run_callFunc_extern Tryd.prog 44 _ (ReflectliteValue.method (ReflectliteValue.valueError "reflectlite.Value.IsNil" 0) ReflectliteValue.isNil) Tryd.func44 (by kernel_rfl) (by kernel_rfl) (by kernel_rfl) (by kernel_rfl)
  have h27 := @run_callFunc_extern Tryd.prog 92 _ (ReflectliteType.abiMethod fun t => do pure (.int .u8 (← Rtype.kind t))) Tryd.func92 (by kernel_rfl) (by kernel_rfl) (by kernel_rfl) (by kernel_rfl)
  have h37 := @run_callFunc_extern Tryd.prog 105 _ (ReflectliteType.method ReflectliteType.elem) Tryd.func105 (by kernel_rfl) (by kernel_rfl) (by kernel_rfl) (by kernel_rfl)
  have h38 := @run_callFunc_extern Tryd.prog 106 _ (ReflectliteType.relation "Implements" ReflectliteType.implements_) Tryd.func106 (by kernel_rfl) (by kernel_rfl) (by kernel_rfl) (by kernel_rfl)
  have h10 := @run_callFunc_extern Tryd.prog 53 _ ReflectliteType.typeOf Tryd.func53 (by kernel_rfl) (by kernel_rfl) (by kernel_rfl) (by kernel_rfl)
  have h35 := @run_callFunc_extern Tryd.prog 103 _ (ReflectliteType.relation "AssignableTo" ReflectliteType.assignableTo) Tryd.func103 (by kernel_rfl) (by kernel_rfl) (by kernel_rfl) (by kernel_rfl)
  have h11 := @run_callFunc_extern Tryd.prog 54 _ (ReflectliteValue.method (ReflectliteValue.valueError "reflectlite.Value.Elem" 0) ReflectliteValue.elem) Tryd.func54 (by kernel_rfl) (by kernel_rfl) (by kernel_rfl) (by kernel_rfl)
  have h12 := @run_callFunc_extern Tryd.prog 55 _ ReflectliteValue.set Tryd.func55 (by kernel_rfl) (by kernel_rfl) (by kernel_rfl) (by kernel_rfl)
  have tO := Tryd.typeOfS
  have mA := Tryd.methodAssignableTo
  have aS := Tryd.assignableS
  have vS := Tryd.valueOfS
  have f6 := Tryd.valueOfP
  have f7 := Tryd.typeP
  have mK := Tryd.methodKind
  have mE := Tryd.methodElem
  have mI := Tryd.methodImplements
  have kP := Tryd.kindP
  have kS := Tryd.kindS
  have eP := Tryd.elemP
  have iS := Tryd.implementsS
  have hlt : 1 < w.heap.size := World.block_lt_of_cell? _ _ hg
  have hFl : F < w.heap.size := World.block_lt_of_cell? _ _ ht0
  obtain ⟨W1, hW1⟩ : ∃ W1, w.alloc (.cells #[.pointer (some ⟨F, 0, none⟩)] 57) = W1 := ⟨_, rfl⟩
  obtain ⟨W2, hW2⟩ : ∃ W2, W1.alloc (.cells #[.pointer (some ⟨5, 57, none⟩), .pointer (some ⟨w.heap.size, 0, none⟩), .int .u64 150] 86) = W2 := ⟨_, rfl⟩
  obtain ⟨W3, hW3⟩ : ∃ W3, W2.alloc (.cells #[.pointer (some ⟨5, 57, none⟩), .pointer (some ⟨w.heap.size, 0, none⟩), .int .u64 150] 86) = W3 := ⟨_, rfl⟩
  obtain ⟨W4, hW4⟩ : ∃ W4, W3.alloc (.cells #[.int .i64 c, .int .i64 m] 55) = W4 := ⟨_, rfl⟩
  have b1 : Below w.heap.size w W1 := by rw [← hW1]; exact (Below.refl _ _).alloc (Nat.le_refl _) _
  have b2 : Below w.heap.size w W2 := by rw [← hW2]; exact b1.alloc b1.size _
  have b3 : Below w.heap.size w W3 := by rw [← hW3]; exact b2.alloc b2.size _
  have b4 : Below w.heap.size w W4 := by rw [← hW4]; exact b3.alloc b3.size _
  have p1 : W1.cell? ⟨w.heap.size, 0, none⟩ = some (.pointer (some ⟨F, 0, none⟩)) := by rw [← hW1]; simp
  have p2 : W2.cell? ⟨w.heap.size, 0, none⟩ = some (.pointer (some ⟨F, 0, none⟩)) := by rw [← hW2, World.cell?_alloc_lt _ _ ⟨w.heap.size, 0, none⟩ (by rw [← hW1]; simp)]; exact p1
  have p3 : W3.cell? ⟨w.heap.size, 0, none⟩ = some (.pointer (some ⟨F, 0, none⟩)) := by rw [← hW3, World.cell?_alloc_lt _ _ ⟨w.heap.size, 0, none⟩ (by rw [← hW2, ← hW1]; simp; omega)]; exact p2
  have n8 := Tryd.isNilP ⟨w.heap.size, 0, none⟩ ⟨F, 0, none⟩ W2 p2
  have el := Tryd.elemVP ⟨w.heap.size, 0, none⟩ ⟨F, 0, none⟩ W3 p3
  have hg2 : W2.cell? ⟨1, 0, none⟩ = some (.iface 107 (.agg #[.pointer (some ⟨5, 51, none⟩)])) := (b2.cell (p := ⟨1, 0, none⟩) hlt).trans hg
  have st := Tryd.setS F W3.heap.size c m x y W4 (by rw [← hW4]; simp) (by rw [← hW4]; simp) ((b4.cell (p := ⟨F, 0, none⟩) hFl).trans ht0) ((b4.cell (p := ⟨F, 1, none⟩) hFl).trans ht1) (fun k => by rw [b4.frozen (p := ⟨F, k, none⟩) hFl]; exact hf0 k)
  subst hW4 hW3 hW2 hW1
  simp only [World.size_alloc] at st
  have HB4 : Hid (Below w.heap.size w _) := b4
  clear b1 b2 b3 b4 p1 p2 p3 hlt hFl
  go_enter Tryd.func20, Tryd.ntmps20
  go_wp2
  refine wp_loop_rounds 1 ?_
  rw [rounds_succ]
  go_wp2
  go_ret
  exact ⟨rfl, _, rfl, HB4.out⟩

end Go.Proofs.YteodefmpkljedaaDoor
