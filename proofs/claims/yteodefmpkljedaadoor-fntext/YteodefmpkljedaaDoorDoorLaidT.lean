/-
  What the laid variables give the walk of FnText.
-/
import Derived.Test.YteodefmpkljedaaDoorRows
import Derived.Test.YteodefmpkljedaaDoorShelfText
import Derived.Test.YteodefmpkljedaaDoorImplRead8
import Derived.Test.YteodefmpkljedaaDoorWords
import Derived.ProofKit
import Derived.LaidMore
import Derived.LaidHandle
import Derived.LaidLaws
import Derived.OpenShut
namespace Go.Proofs.YteodefmpkljedaaDoor
open Go.ChangeShapes Go.WideShapes Go.ChangeAt Go.RowKit
set_option linter.unusedVariables false

theorem Tryd.gWords : Tryd.prog.globalNamed "loop.example/sprag/impl.words" = some 0 := by kernel_rfl
theorem Tryd.tWords : (Tryd.prog.globals[0]?).map (·.type) = some 80 := by kernel_rfl
theorem Tryd.gErr : Tryd.prog.globalNamed "errors.errorType" = some 1 := by kernel_rfl
theorem Tryd.rtErr : (Tryd.prog.cutTypes.find? (·.1 == "internal/reflectlite.rtype")).map (·.2) = some 107 := by kernel_rfl
theorem Tryd.oneErr : ((List.range 168).filter fun t => Tryd.prog.rowNamed t [101, 114, 114, 111, 114]) = [51] := by kernel_rfl
theorem Tryd.sizeTypes : Tryd.prog.types.size = 168 := by kernel_rfl
theorem Tryd.tPow : (Tryd.prog.globals[2]?).map (·.type) = some 135 := by kernel_rfl

theorem words_of {W : World} {g0 : Nat} {t0 : TypeId} {cs : Array Value} {f0 : Nat} {p0 : List MemPlace} (hg0 : Tryd.prog.globalNamed "loop.example/sprag/impl.words" = some g0) (ht0 : (Tryd.prog.globals[g0]?).map (·.type) = some t0) (hv0 : W.var? Tryd.prog "loop.example/sprag/impl.words" = some cs) (hd0 : DataW.trod (fun _ => ()) Tryd.prog W 0 (fun _ => true) false f0 t0 cs.toList = some (Rows.laid_loop_example_sprag_impl_words, p0)) : WordsAt W := by
  obtain rfl := Option.some.inj (Tryd.gWords.symm.trans hg0)
  obtain rfl := Option.some.inj (Tryd.tWords.symm.trans ht0)
  obtain ⟨xs, m, rfl, hx, hlen, hn, hel⟩ := DataW.trod_array Tryd.underlying80 hd0
  have c1 : Tryd.prog.cellsOf 9 = 1 := by kernel_rfl
  have hx1 : (Rows.laid_loop_example_sprag_impl_words : DataW Unit) = .agg (xs.map (·.1)) := congrArg Prod.fst hx
  have hx2 : [0, 1, 2, 3, 4, 5, 6, 7].map (fun i => (DataW.lit (Lit.string (wrd i)) : DataW Unit)) = xs.map (·.1) := DataW.agg.inj hx1
  have hcell : ∀ id : Nat, id < 8 → W.cell? ⟨0, id, none⟩ = some (.string ⟨(wrd id).toArray⟩) := by
    intro id hid
    have e := hel id hid
    rw [c1, Nat.mul_one] at e
    obtain ⟨x, hxi⟩ : ∃ x, xs[id]? = some x := ⟨xs[id]'(by omega), List.getElem?_eq_getElem _⟩
    rw [hxi] at e
    obtain ⟨s, e1, e2, _⟩ := DataW.trod_string Tryd.underlying9 e
    have e3 : ([0, 1, 2, 3, 4, 5, 6, 7].map (fun i => (DataW.lit (Lit.string (wrd i)) : DataW Unit)))[id]? = some (.lit (.string s.data.toList)) := by
      rw [hx2, List.getElem?_map, hxi, e2]; rfl
    have e4 : ([0, 1, 2, 3, 4, 5, 6, 7].map (fun i => (DataW.lit (Lit.string (wrd i)) : DataW Unit)))[id]? = some (.lit (.string (wrd id))) := by
      match id, hid with
      | 0, _ => rfl
      | 1, _ => rfl
      | 2, _ => rfl
      | 3, _ => rfl
      | 4, _ => rfl
      | 5, _ => rfl
      | 6, _ => rfl
      | 7, _ => rfl
    have e5 : s.data.toList = wrd id := by
      exact Lit.string.inj (DataW.lit.inj (Option.some.inj (e3.symm.trans e4)))
    have e6 : s = ⟨(wrd id).toArray⟩ := by
      obtain ⟨a⟩ := s
      rw [← e5]
    have e7 : cs.toList[id]? = some (.string s) := by
      have := congrArg (fun l : List Value => l[0]?) e1
      simpa using this
    rw [World.var?_cell hg0 hv0 id, ← Array.getElem?_toList, e7, e6]
  have hlt := World.block_lt_of_cell? _ _ (hcell 0 (by decide))
  exact ⟨Nat.lt_of_le_of_lt (Nat.zero_le _) hlt, hlt, hcell⟩
theorem pow_of {W : World} {g0 : Nat} {t0 : TypeId} {cs : Array Value} {f0 : Nat} {p0 : List MemPlace} (hg0 : Tryd.prog.globalNamed "internal/strconv.uint64pow10" = some g0) (ht0 : (Tryd.prog.globals[g0]?).map (·.type) = some t0) (hv0 : W.var? Tryd.prog "internal/strconv.uint64pow10" = some cs) (hd0 : DataW.trod (fun _ => ()) Tryd.prog W 0 (fun _ => true) false f0 t0 cs.toList = some (Rows.laid_internal_strconv_uint64pow10, p0)) : PowAt W := by
  obtain rfl := Option.some.inj (Tryd.gPow.symm.trans hg0)
  obtain rfl := Option.some.inj (Tryd.tPow.symm.trans ht0)
  have e : (Rows.laid_internal_strconv_uint64pow10 : DataW Unit) = Lib.tabData .u64 Lib.pow10Tab := by rfl
  rw [e] at hd0
  unfold PowAt Lib.TabIs
  rw [hv0, ← Lib.cells_of_tab Tryd.underlying135 Tryd.underlying38 (by kernel_rfl) (by kernel_rfl) hd0]
theorem err_laid {W : World} (h : handlesMet Tryd.prog [("errors.errorType", Rows.laid_errors_errorType)] W) : ErrT W := by
  obtain ⟨name, u, ty, e1, e2, e3, e4, e5⟩ := h _ (List.mem_singleton.2 rfl)
  have en : name = [101, 114, 114, 111, 114] := (Option.some.inj e1).symm
  subst en
  obtain rfl := Option.some.inj (Tryd.rtErr.symm.trans e2)
  have hm : ty ∈ (List.range 168).filter fun t => Tryd.prog.rowNamed t [101, 114, 114, 111, 114] := List.mem_filter.2 ⟨List.mem_range.2 (by rw [← Tryd.sizeTypes]; exact e3), e4⟩
  rw [Tryd.oneErr] at hm
  obtain rfl := List.mem_singleton.1 hm
  have hh : typeHandle Tryd.prog 51 = .pointer (some ⟨5, 51, none⟩) := by kernel_rfl
  rw [hh] at e5
  have e6 := World.var?_cell Tryd.gErr e5 0
  exact e6.trans rfl
theorem text_laid {W : World} (h : laidMetH Tryd.prog [("math/bits.deBruijn32tab", Rows.laid_math_bits_deBruijn32tab), ("math/bits.deBruijn64tab", Rows.laid_math_bits_deBruijn64tab), ("internal/strconv.uint64pow10", Rows.laid_internal_strconv_uint64pow10), ("errors.errorType", Rows.laid_errors_errorType), ("loop.example/sprag/impl.words", Rows.laid_loop_example_sprag_impl_words)] W) : WordsAt W ∧ PowAt W ∧ ErrT W := by
  have h' : laidMet Tryd.prog [("math/bits.deBruijn32tab", Rows.laid_math_bits_deBruijn32tab), ("math/bits.deBruijn64tab", Rows.laid_math_bits_deBruijn64tab), ("internal/strconv.uint64pow10", Rows.laid_internal_strconv_uint64pow10), ("loop.example/sprag/impl.words", Rows.laid_loop_example_sprag_impl_words)] W ∧ handlesMet Tryd.prog [("errors.errorType", Rows.laid_errors_errorType)] W := h
  obtain ⟨⟨ps, ⟨_, _, _, _, _, _, _, _, _, _, ⟨_, _, _, _, _, _, _, _, _, _, ⟨g2, t2, cs2, f2, p2, q2, hg2, ht2, hv2, hd2, ⟨g3, t3, cs3, f3, p3, q3, hg3, ht3, hv3, hd3, _, _⟩, _⟩, _⟩, _⟩, _, _⟩, hh⟩ := h'
  exact ⟨words_of hg3 ht3 hv3 hd3, pow_of hg2 ht2 hv2 hd2, err_laid hh⟩
theorem door_met (os : Os) (args : Array Value) : laidMetH Tryd.prog [("math/bits.deBruijn32tab", Rows.laid_math_bits_deBruijn32tab), ("math/bits.deBruijn64tab", Rows.laid_math_bits_deBruijn64tab), ("internal/strconv.uint64pow10", Rows.laid_internal_strconv_uint64pow10), ("errors.errorType", Rows.laid_errors_errorType), ("loop.example/sprag/impl.words", Rows.laid_loop_example_sprag_impl_words)] ((World.doorLaid Tryd.prog 400 os).forCall (fun _ _ => 0) ⟨#[], args, []⟩).memory :=
  laidMetH_of_parts (laidMet_of_run' 8 (by kernel_rfl) (by kernel_rfl)) (by kernel_rfl)

end Go.Proofs.YteodefmpkljedaaDoor
