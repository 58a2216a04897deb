/-
  The program's writer: a number behind a word.
-/
import Derived.Test.YteodefmpkljedaaDoorImplText1
import Derived.Test.YteodefmpkljedaaDoorShelfText
import Derived.Test.YteodefmpkljedaaDoorWords
namespace Go.Proofs.YteodefmpkljedaaDoor
open Go.RowKit Go.Sort Go.Shelf
set_option linter.unusedVariables false
set_option linter.unusedSimpArgs false

set_option maxRecDepth 20000 in
set_option maxHeartbeats 4000000 in
theorem behind_any (id : Nat) (hid : id < 8) (x : Int) (h0 : 0 ≤ x) (h1 : x ≤ 1000000000000) (w : World) (hw : WordsAt w) (ht : PowAt w) :
    Calls Tryd.prog 36 #[.int .i64 id, .int .i64 x] w fun e w' => e = .returned (.string ⟨(wrd id ++ decL x.toNat).toArray⟩) ∧ Below w.heap.size w w' := by
  have eD : Hid (∀ args w, (callFunc 50 args).run Tryd.prog w = .ok (.enter 50 args) w) := enters_of Tryd.func50 (by kernel_rfl) rfl
  have HD : Hid (∀ y, PowAt y → Calls Tryd.prog 50 #[.int .i64 x] y fun e w' => e = .returned (.string ⟨(decL x.toNat).toArray⟩) ∧ Below y.heap.size y w') := fun y hy => itoa_any x h0 h1 y hy
  have HT : Hid (PowAt w) := ht
  have hc := hw.2.2 id hid
  have hg := hw.2.1
  have hl := dec_len (x := x) h1
  have hwl : (wrd id).length ≤ 7 := by
    match id, hid with
    | 0, _ => decide
    | 1, _ => decide
    | 2, _ => decide
    | 3, _ => decide
    | 4, _ => decide
    | 5, _ => decide
    | 6, _ => decide
    | 7, _ => decide
  have i1 : ((id : Int) < 8) := by omega
  have i2 : (0 : Int) ≤ (id : Int) := by omega
  generalize decL x.toNat = D at *
  generalize wrd id = V at *
  have e5 : (⟨V.toArray⟩ : ByteArray) ++ ⟨D.toArray⟩ = ⟨(V ++ D).toArray⟩ := bytes_app V D
  have o5 : ¬ (9223372036854775807 < V.length + D.length) := by omega
  clear hw ht hl hwl h0 h1
  go_enter Tryd.func36, Tryd.ntmps36
  go_wp2_with fail
  have hS0 : (fun y : World => y.cell? ⟨0, id, none⟩ = some (.string ⟨V.toArray⟩)) w.drew := hc
  refine wp_region_held (S := (fun y : World => y.cell? ⟨0, id, none⟩ = some (.string ⟨V.toArray⟩))) (by kernel_rfl) ?_
  change wpAnyH _ _ _ _ _ 7 _ _ w.drew
  clear hc
  refine wpAnyH_take (i := 0) (v := .int .i64 id) rfl (by kernel_rfl) (by kernel_rfl) (by kernel_rfl) (fun _ _ _ h => h) (Or.inl ⟨by rfl, fun y hy => ?_⟩) hS0 ?_
  · go_simp
  refine wpAnyH_take (i := 1) (v := .pointer (some ⟨0, id, none⟩)) rfl (by kernel_rfl) (by kernel_rfl) (by kernel_rfl) (fun _ _ _ h => h) (Or.inl ⟨by rfl, fun y hy => ?_⟩) hS0 ?_
  · go_simp
  refine wpAnyH_take (i := 2) (v := .string ⟨V.toArray⟩) rfl (by kernel_rfl) (by kernel_rfl) (by kernel_rfl) (fun _ _ _ h => h) (Or.inl ⟨by rfl, fun y hy => ?_⟩) hS0 ?_
  · go_simp
  refine wpAnyH_take (i := 3) (v := .int .i64 x) rfl (by kernel_rfl) (by kernel_rfl) (by kernel_rfl) (fun _ _ _ h => h) (Or.inl ⟨by rfl, fun y hy => ?_⟩) hS0 ?_
  · go_simp
  refine wpAnyH_sole (i := 4) rfl (by kernel_rfl) (fun K hK => ?_)
  refine step_one rfl 50 (.tmp 8) _ rfl (.int .i64 x) (by simp [Act.eval, Act.put]) eD.out (HD.out _ (HT.out.below (Below.refl _ _).drew)) ?_
  rintro e w3 ⟨rfl, hb3⟩
  have hS3 : (fun y : World => y.cell? ⟨0, id, none⟩ = some (.string ⟨V.toArray⟩)) w3 := (hb3.cell (p := ⟨0, id, none⟩) hg).trans hS0
  have HQ3 : Hid (Below w.heap.size w w3) := (Below.refl _ _).drew.trans hb3
  clear hS0
  refine ⟨_, rfl, hK _ _ hS3 ?_⟩
  clear hK K hb3
  refine wpAnyH_take (i := 5) (v := .string ⟨(V ++ D).toArray⟩) rfl (by kernel_rfl) (by kernel_rfl) (by kernel_rfl) (fun _ _ _ h => h) (Or.inl ⟨by rfl, fun y hy => ?_⟩) hS3 ?_
  · go_simp
  refine wpAnyH_sole (i := 6) rfl (by kernel_rfl) (fun K hK => ?_)
  go_simp
  refine hK _ _ hS3 ?_
  clear hK K
  refine wpAnyH_done (by kernel_rfl) ?_ _
  clear hS3 e5 o5
  go_wp2
  go_ret
  exact ⟨rfl, HQ3.out⟩

end Go.Proofs.YteodefmpkljedaaDoor
