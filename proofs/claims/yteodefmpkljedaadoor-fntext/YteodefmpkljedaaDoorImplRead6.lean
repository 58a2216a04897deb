/-
  The program's reader: what it leaves with is taken, and told as an error.
-/
import Derived.Test.YteodefmpkljedaaDoorImplRead5
import Derived.Defers
import Derived.Recover
namespace Go.Proofs.YteodefmpkljedaaDoor
open Go.RowKit Go.Sort Go.Shelf
set_option linter.unusedVariables false
set_option linter.unusedSimpArgs false

theorem leaves_ret {P : Program} {fn : Func} {tmps : Array Value} {R : Ending → World → Prop} {w : World} {v : Value} (h1 : (results fn tmps).run P w = .ok v w) (h2 : R (.returned v) w) : Leaves P fn tmps R [] .returning w := ⟨v, h1, h2⟩
theorem ta_left (m : Int) (w : World) : (Instr.typeAssert (.iface 101 (.agg #[.int .i64 m])) 20 101 true).run Tryd.prog w = .ok (.tuple #[.agg #[.int .i64 m], .bool true]) w := by kernel_rfl
theorem ta_nil (w : World) : (Instr.typeAssert .nilIface 20 101 true).run Tryd.prog w = .ok (.tuple #[.agg #[.int .i64 0], .bool false]) w := by kernel_rfl

set_option maxRecDepth 20000 in
set_option maxHeartbeats 2000000 in
theorem catch_left (E : Nat) (m : Int) (old : Value) (older : List PanicEntry) (w : World) (hc : w.cell? ⟨E, 0, none⟩ = some old) (hz : w.frozen? ⟨E, 0, none⟩ = false) (hE : E < w.heap.size) :
    CallsD Tryd.prog 51 #[.pointer (some ⟨E, 0, none⟩)] (.panicking ({ v := .iface 101 (.agg #[.int .i64 m]), recovered := false } :: older)) w fun e u' w' =>
      e = .returned (.tuple #[]) ∧ u' = .panicking ({ v := .iface 101 (.agg #[.int .i64 m]), recovered := true } :: older) ∧ w' = (w.alloc (.cells #[.int .i64 m] 101)).setCell ⟨E, 0, none⟩ (.iface 55 (.agg #[.int .i64 1, .int .i64 m])) := by
  refine callsD_of_wpS Tryd.func51 rfl fun c₀ cs hu => ?_
  apply wpS_seq
  apply wpS_region
  simp [wpOpsS, go_sem, recoverD, hu, Tryd.ntmps51, Exit.thenS, ta_left, ta_nil, Result.andThen]
  apply wpS_seq
  apply wpS_region
  simp [wpOpsS, go_sem, Exit.thenS]
  refine wpS_cond (t := true) (by simp [Act.eval, Array.replicate]) ?_
  simp only [if_true]
  apply wpS_region
  have hc' : (w.alloc (.cells #[.int .i64 m] 101)).cell? ⟨E, 0, none⟩ = some old := by rw [World.cell?_alloc_lt _ _ ⟨E, 0, none⟩ hE]; exact hc
  have hz' : (w.alloc (.cells #[.int .i64 m] 101)).frozen? ⟨E, 0, none⟩ = false := by rw [World.frozen?_alloc_old _ _ ⟨E, 0, none⟩ (Nat.ne_of_lt hE)]; exact hz
  simp [wpOpsS, go_sem, hc', hz', bodyPostS, results, Tryd.results51]

set_option maxRecDepth 20000 in
set_option maxHeartbeats 2000000 in
theorem catch_idle (E : Nat) (w : World) :
    CallsD Tryd.prog 51 #[.pointer (some ⟨E, 0, none⟩)] .returning w fun e u' w' => e = .returned (.tuple #[]) ∧ u' = .returning ∧ w' = w.alloc (.cells #[.int .i64 0] 101) := by
  refine callsD_of_wpS Tryd.func51 rfl fun c₀ cs hu => ?_
  apply wpS_seq
  apply wpS_region
  simp [wpOpsS, go_sem, recoverD, hu, Tryd.ntmps51, Exit.thenS, ta_left, ta_nil, Result.andThen]
  apply wpS_seq
  apply wpS_region
  simp [wpOpsS, go_sem, Exit.thenS]
  refine wpS_cond (t := false) (by simp [Act.eval, Array.replicate]) ?_
  simp only [Bool.false_eq_true, if_false]
  refine wpS_of_wp (wp_skip ?_)
  cases c₀
  simp_all [bodyPostS, results, Tryd.results51]

set_option maxRecDepth 20000 in
set_option maxHeartbeats 4000000 in
theorem profileIn_any (t : List UInt8) (w : World) (hw : WordsAt w) (ht : t.length ≤ 3000) :
    Calls Tryd.prog 41 #[.string ⟨t.toArray⟩] w fun e w' => (∃ (g : Got) (n : Nat) (sp sz : Value), rtext t = Rd.ok g n ∧ g.ps.length ≤ 3000 ∧ g.zs.length ≤ 3000 ∧ e = .returned (.tuple #[.agg #[sp, sz, .int .i64 (g.t : Int), .int .i64 (g.e : Int), .int .i64 (g.d : Int)], .nilIface]) ∧ w'.ownsRow w.heap.size 46 2 sp g.ps.length (cellsP g.ps) ∧ w'.ownsRow w.heap.size 49 3 sz g.zs.length (cellsZ g.zs) ∧ Below w.heap.size w w') ∨
      (∃ m : Nat, rtext t = Rd.bad m ∧ e = .returned (.tuple #[.agg #[nilS, nilS, .int .i64 0, .int .i64 0, .int .i64 0], .iface 55 (.agg #[.int .i64 1, .int .i64 (m : Int)])]) ∧ Below w.heap.size w w') := by
  have hmf : ∀ (fn : Fn) (first cap : Array Value) (w : World), (Instr.makeFunc fn first cap).run Tryd.prog w = .ok (.func fn first cap) w := fun _ _ _ _ => rfl
  have HW : Hid (WordsAt w) := hw
  clear hw
  go_enter_defers Tryd.func41, Tryd.ntmps41
  go_wp2_with fail
  obtain ⟨Ob, hOb⟩ : ∃ Ob, w.heap.size = Ob := ⟨_, rfl⟩
  obtain ⟨Eb, hEb⟩ : ∃ Eb, Ob + 1 = Eb := ⟨_, rfl⟩
  obtain ⟨Rb, hRb⟩ : ∃ Rb, Eb + 1 = Rb := ⟨_, rfl⟩
  rw [hOb, hEb, hRb]
  obtain ⟨W, hWE⟩ : ∃ W, ((w.alloc (.cells #[nilS, nilS, .int .i64 0, .int .i64 0, .int .i64 0] 26)).alloc (.cells #[.nilIface] 51)).alloc (.cells #[.string ⟨t.toArray⟩, .int .i64 0] 104) = W := ⟨_, rfl⟩
  rw [hWE]
  have HB0 : Hid (Below w.heap.size w W) := by rw [← hWE]; exact (((Below.refl _ _).alloc (Nat.le_refl _) _).alloc (by simp) _).alloc (by simp; omega) _
  have HO0 : Hid (W.rowIs Ob 26 5 (p5 nilS nilS 0 0 0)) := by
    have := ((World.rowIs_alloc w #[nilS, nilS, .int .i64 0, .int .i64 0, .int .i64 0] 26 (p5 nilS nilS 0 0 0) (fun i hi => by simp at hi; match i, hi with | 0, _ => rfl | 1, _ => rfl | 2, _ => rfl | 3, _ => rfl | 4, _ => rfl)).alloc (.cells #[.nilIface] 51)).alloc (.cells #[.string ⟨t.toArray⟩, .int .i64 0] 104)
    rw [hOb, hWE] at this
    exact this
  have HE0 : Hid (W.rowIs Eb 51 1 (fun _ => .nilIface)) := by
    have := (World.rowIs_alloc (w.alloc (.cells #[nilS, nilS, .int .i64 0, .int .i64 0, .int .i64 0] 26)) #[.nilIface] 51 (fun _ => .nilIface) (fun i hi => by simp at hi; match i, hi with | 0, _ => rfl)).alloc (.cells #[.string ⟨t.toArray⟩, .int .i64 0] 104)
    rw [World.size_alloc, hOb, hEb, hWE] at this
    exact this
  have HR0 : Hid (ReadAt W Rb t ((0 : Nat) : Int)) := by
    have := World.rowIs_alloc ((w.alloc (.cells #[nilS, nilS, .int .i64 0, .int .i64 0, .int .i64 0] 26)).alloc (.cells #[.nilIface] 51)) #[.string ⟨t.toArray⟩, .int .i64 0] 104 (rd2 t 0) (fun i hi => by simp at hi; match i, hi with | 0, _ => rfl | 1, _ => rfl)
    rw [World.size_alloc, World.size_alloc, hOb, hEb, hRb, hWE] at this
    exact this
  have HW0 : Hid (WordsAt W) := HW.out.below HB0.out
  have hGB : 0 < Rb := by have := HW.out.2.1; omega
  have hOE : Ob < Eb := by omega
  have hER : Eb < Rb := by omega
  have HOB : Hid (w.heap.size = Ob) := hOb
  have hWs : Rb < W.heap.size := HR0.out.lt
  clear hWE hRb hEb hOb
  refine (profile_I t Rb W HR0.out HW0.out hGB ht).mono ?_
  rintro e w1 ⟨hc, hg⟩
  have HB1 : Hid (Below w.heap.size w w1) := HB0.out.grown hg HB0.out.size (fun k e => by have h1 := Option.some.inj e; have h2 := HOB.out; omega)
  have HO1 : Hid (w1.rowIs Ob 26 5 (p5 nilS nilS 0 0 0)) := rowIs_grown HO0.out hg (by simp; omega)
  have HE1 : Hid (w1.rowIs Eb 51 1 (fun _ => .nilIface)) := rowIs_grown HE0.out hg (by simp; omega)
  have o0 : w1.cell? ⟨Ob, 0, none⟩ = some nilS := HO1.out.cell (i := 0) (by omega)
  have o1 : w1.cell? ⟨Ob, 1, none⟩ = some nilS := HO1.out.cell (i := 1) (by omega)
  have o2 : w1.cell? ⟨Ob, 2, none⟩ = some (.int .i64 0) := HO1.out.cell (i := 2) (by omega)
  have o3 : w1.cell? ⟨Ob, 3, none⟩ = some (.int .i64 0) := HO1.out.cell (i := 3) (by omega)
  have o4 : w1.cell? ⟨Ob, 4, none⟩ = some (.int .i64 0) := HO1.out.cell (i := 4) (by omega)
  have of := HO1.out.frozen
  have e0 : w1.cell? ⟨Eb, 0, none⟩ = some .nilIface := HE1.out.cell (i := 0) (by omega)
  have ef := HE1.out.frozen
  have l1 : Eb < w1.heap.size := HE1.out.lt
  have hne : ¬ (Eb = Ob) := by omega
  have hne' : ¬ (Ob = Eb) := by omega
  have HG : Hid (W.grownBy w1 (some Rb)) := hg
  clear hg HO0 HE0 HR0 HW0 HW HB0
  rcases hc with ⟨g, n, sp, sz, hX, l2, l3, rfl, hps, hzs⟩ | ⟨m, hX, rfl⟩
  · have HX : Hid (rtext t = Rd.ok g n) := hX
    obtain ⟨av, cv, rfl, _, _, _⟩ := owned_shape hps
    obtain ⟨au, cu, rfl, _, _, _⟩ := owned_shape hzs
    have HPS : Hid (w1.ownsRow W.heap.size 46 2 (.slice av g.ps.length cv) g.ps.length (cellsP g.ps)) := hps
    have HZS : Hid (w1.ownsRow W.heap.size 49 3 (.slice au g.zs.length cu) g.zs.length (cellsZ g.zs)) := hzs
    clear hX hps hzs
    go_wp2
    refine leaves_cons (f := 51) (args := #[.pointer (some ⟨Eb, 0, none⟩)]) (by simp) (by simp [go_sem]) ?_
    refine (catch_idle Eb _).mono ?_
    rintro e u' w'' ⟨rfl, rfl, rfl⟩
    obtain ⟨WG, hWG⟩ : ∃ WG, (((((w1.setCell ⟨Ob, 0, none⟩ (.slice av g.ps.length cv)).setCell ⟨Ob, 1, none⟩ (.slice au g.zs.length cu)).setCell ⟨Ob, 2, none⟩ (.int .i64 (g.t : Int))).setCell ⟨Ob, 3, none⟩ (.int .i64 (g.e : Int))).setCell ⟨Ob, 4, none⟩ (.int .i64 (g.d : Int))).setCell ⟨Eb, 0, none⟩ .nilIface = WG := ⟨_, rfl⟩
    rw [hWG]
    have rO : WG.rowIs Ob 26 5 (p5 (.slice av g.ps.length cv) (.slice au g.zs.length cu) g.t g.e g.d) := by
      rw [← hWG]
      refine (((((((HO1.out.set 0 (.slice av g.ps.length cv)).set 1 (.slice au g.zs.length cu)).set 2 (.int .i64 (g.t : Int))).set 3 (.int .i64 (g.e : Int))).set 4 (.int .i64 (g.d : Int)))).setOther (by simp; omega) _).congr (fun k hk => ?_)
      match k, hk with
      | 0, _ => rfl
      | 1, _ => rfl
      | 2, _ => rfl
      | 3, _ => rfl
      | 4, _ => rfl
    have rE : WG.rowIs Eb 51 1 (fun _ => .nilIface) := by
      have h5 : (((((w1.setCell ⟨Ob, 0, none⟩ (.slice av g.ps.length cv)).setCell ⟨Ob, 1, none⟩ (.slice au g.zs.length cu)).setCell ⟨Ob, 2, none⟩ (.int .i64 (g.t : Int))).setCell ⟨Ob, 3, none⟩ (.int .i64 (g.e : Int))).setCell ⟨Ob, 4, none⟩ (.int .i64 (g.d : Int))).rowIs Eb 51 1 (fun _ => .nilIface) := by
        iterate 5 refine World.rowIs.setOther ?_ (by simp; omega) _
        exact HE1.out
      have h6 := h5.set 0 .nilIface
      rw [hWG] at h6
      exact h6.congr (fun k hk => match k, hk with | 0, _ => rfl)
    have HBG : Hid (Below w.heap.size w WG) := by
      have h2 := HOB.out
      rw [← hWG]
      iterate 6 refine Below.setCell ?_ (by simp; omega) _
      exact HB1.out
    have HPG : Hid (WG.ownsRow w.heap.size 46 2 (.slice av g.ps.length cv) g.ps.length (cellsP g.ps)) := by
      have h2 := HOB.out
      have h3 := HPS.out
      rw [← hWG]
      refine ownsRow_base (base := W.heap.size) ?_ (by omega)
      iterate 6 refine owned_grown ?_ (grown_set _ _ _ _) (fun j e he => by have h1 := ownsRow_block h3 j he; have h2 := Option.some.inj e; omega)
      exact h3
    have HZG : Hid (WG.ownsRow w.heap.size 49 3 (.slice au g.zs.length cu) g.zs.length (cellsZ g.zs)) := by
      have h2 := HOB.out
      have h3 := HZS.out
      rw [← hWG]
      refine ownsRow_base (base := W.heap.size) ?_ (by omega)
      iterate 6 refine owned_grown ?_ (grown_set _ _ _ _) (fun j e he => by have h1 := ownsRow_block h3 j he; have h2 := Option.some.inj e; omega)
      exact h3
    obtain ⟨WF, hWF⟩ : ∃ WF, WG.alloc (.cells #[.int .i64 0] 101) = WF := ⟨_, rfl⟩
    rw [hWF]
    have bF : Below WG.heap.size WG WF := by rw [← hWF]; exact (Below.refl _ _).alloc (Nat.le_refl _) _
    have rO2 := rO.of_block (bF.block Ob rO.lt)
    have rE2 := rE.of_block (bF.block Eb rE.lt)
    have z0 : WF.cell? ⟨Ob, 0, none⟩ = some (.slice av g.ps.length cv) := rO2.cell (i := 0) (by omega)
    have z1 : WF.cell? ⟨Ob, 1, none⟩ = some (.slice au g.zs.length cu) := rO2.cell (i := 1) (by omega)
    have z2 : WF.cell? ⟨Ob, 2, none⟩ = some (.int .i64 (g.t : Int)) := rO2.cell (i := 2) (by omega)
    have z3 : WF.cell? ⟨Ob, 3, none⟩ = some (.int .i64 (g.e : Int)) := rO2.cell (i := 3) (by omega)
    have z4 : WF.cell? ⟨Ob, 4, none⟩ = some (.int .i64 (g.d : Int)) := rO2.cell (i := 4) (by omega)
    have zE : WF.cell? ⟨Eb, 0, none⟩ = some .nilIface := rE2.cell (i := 0) (by omega)
    refine leaves_ret (v := .tuple #[.agg #[.slice av g.ps.length cv, .slice au g.zs.length cu, .int .i64 (g.t : Int), .int .i64 (g.e : Int), .int .i64 (g.d : Int)], .nilIface]) ?_ (Or.inl ⟨g, n, .slice av g.ps.length cv, .slice au g.zs.length cu, HX.out, l2, l3, rfl, ownsRow_below HPG.out bF, ownsRow_below HZG.out bF, HBG.out.trans (bF.mono HBG.out.size)⟩)
    simp [results, Tryd.results41, go_sem, z0, z1, z2, z3, z4, zE]
  · have HX : Hid (rtext t = Rd.bad m) := hX
    clear hX
    go_wp2
    refine leaves_cons (f := 51) (args := #[.pointer (some ⟨Eb, 0, none⟩)]) (by simp) (by simp [go_sem]) ?_
    refine (catch_left Eb m .nilIface [] w1 e0 (ef 0) l1).mono ?_
    rintro e u' w'' ⟨rfl, rfl, rfl⟩
    obtain ⟨WF, hWF⟩ : ∃ WF, (w1.alloc (.cells #[.int .i64 (m : Int)] 101)).setCell ⟨Eb, 0, none⟩ (.iface 55 (.agg #[.int .i64 1, .int .i64 (m : Int)])) = WF := ⟨_, rfl⟩
    rw [hWF]
    have z : ∀ k, k < 5 → WF.cell? ⟨Ob, k, none⟩ = some (p5 nilS nilS 0 0 0 k) := fun k hk => by
      rw [← hWF, World.cell?_setCell_other _ _ _ _ (by first | (simp; done) | (simp; omega)), World.cell?_alloc_lt _ _ ⟨Ob, k, none⟩ (by show Ob < _; omega)]
      exact HO1.out.cell (i := k) hk
    have z0 := z 0 (by omega)
    have z1 := z 1 (by omega)
    have z2 := z 2 (by omega)
    have z3 := z 3 (by omega)
    have z4 := z 4 (by omega)
    have zE : WF.cell? ⟨Eb, 0, none⟩ = some (.iface 55 (.agg #[.int .i64 1, .int .i64 (m : Int)])) := by
      have := (((HE1.out.alloc (.cells #[.int .i64 (m : Int)] 101)).set 0 (.iface 55 (.agg #[.int .i64 1, .int .i64 (m : Int)]))).cell (i := 0) (by omega))
      rw [hWF] at this
      exact this
    have HBF : Hid (Below w.heap.size w WF) := by
      have h2 := HOB.out
      rw [← hWF]
      exact (HB1.out.alloc HB1.out.size _).setCell (by show _ ≤ Eb; omega) _
    clear hWF z o0 o1 o2 o3 o4 of e0 ef HO1 HE1
    refine leaves_ret (v := .tuple #[.agg #[nilS, nilS, .int .i64 0, .int .i64 0, .int .i64 0], .iface 55 (.agg #[.int .i64 1, .int .i64 (m : Int)])]) ?_ (Or.inr ⟨m, HX.out, rfl, HBF.out⟩)
    simp [results, Tryd.results41, go_sem, z0, z1, z2, z3, z4, zE, p5]

end Go.Proofs.YteodefmpkljedaaDoor
