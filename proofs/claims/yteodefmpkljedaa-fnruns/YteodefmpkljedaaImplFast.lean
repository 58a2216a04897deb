/-
  The program's Fastest.
-/
import Derived.Test.YteodefmpkljedaaRoundsHome
import Derived.Lib.QuietBelow
import Derived.BigQuiet
namespace Go.Proofs.Yteodefmpkljedaa
open Go.RowKit Go.Sort Go.Shelf
attribute [local go_sem ↓] Go.wp_at_zero Go.wp_at_succ
set_option linter.unusedVariables false

/-- A row of another type is not the one that is owned. -/
theorem own_type {w : World} {base e size n : Nat} {v : Value} {xs : List Value} (h : w.ownsRow base e size v n xs) {b t m : Nat} {f : Nat → Value} (hr : w.rowIs b t m f) (hne : t ≠ e) : v.ownBlock ≠ some b := by
  intro q
  obtain ⟨c, hc, _, _⟩ := hr
  rcases h.2 with ⟨rfl, _⟩ | ⟨g, cap, cur, rfl, _, hh, _⟩
  · cases q
  · have eg : g = b := by simpa [Value.ownBlock] using q
    subst eg
    rw [hh] at hc
    simp only [Option.some.injEq, Obj.cells.injEq] at hc
    exact hne hc.2.1.symm
def lenV : Value → Nat
  | .slice _ n _ => n
  | _ => 0
/-- No speed that leads home as soon is greater. -/
theorem Prof.fleet_top {P : Prof} (hr : ∀ y, 1 ≤ P.rate y) {acc x short : Int} (ha : 0 ≤ acc) {L : Nat → Int} (hL : Fewest (P.way acc x) (P.homeN x short) L) {k : Nat} {d v : Int} (d0 : 0 ≤ d) (d1 : x + d ≤ P.fin) (v0 : 0 ≤ v) (v1 : v ≤ 60) (e : L (stn d v) = (k + 1 : Nat)) {q : Int} (hg : P.goes acc x d v q = true) (hq : L (stn (d + q) q) = k) : q ≤ P.fleet acc x L k d v := by
  have hi := Prof.goes_in hr ha v0 v1 hg
  obtain ⟨ws, hl, ho⟩ := Prof.of_can hr ha (hL.is hq) (d + q) q (by omega) hi.1 hi.2.1 rfl
  exact (P.fleet_is hr ha hL d0 d1 v0 v1 e).2.2 q ws ⟨hg, ho⟩ hl

set_option maxRecDepth 20000 in
set_option maxHeartbeats 8000000 in
theorem speedsHome_any {Fw : Few} (P : Prof) (w : World) (g n H K : Nat) (acc x short : Int) (L : Nat → Int) (hf : P.Fit) (hx : 0 ≤ x) (hN : P.fin - x = (n : Int)) (hn : n ≤ 2000) (a0 : 1 ≤ acc) (a1 : acc ≤ 20) (s0 : 0 ≤ short) (s1 : short ≤ 2000) (hsp : P.Spots w g n x) (ht : Tab w H L) (hT : Fw.Told P acc x short L) (hK : L (stn 0 0) = K) (hR : Fw.runT P acc x short = K) :
    Calls Try.prog 81 #[tripV g n acc short, .pointer (some ⟨H, 0, none⟩)] w fun e w' => ∃ v', e = .returned v' ∧ w'.ownsRow w.heap.size 3 1 v' K (singles (nth (Fw.runL P acc x short)) K) ∧ Below w.heap.size w w' := by
  have HF : Hid P.Fit := hf
  have HSP : Hid (P.Spots w g n x) := hsp
  have HT : Hid (Tab w H L) := ht
  have HTD : Hid (Fw.Told P acc x short L) := hT
  have HK : Hid (L (stn 0 0) = K) := hK
  have HRL : Hid (P.fastL acc x (Fw.few P acc x short) K 0 0 = Fw.runL P acc x short) := by show _ = _; unfold Few.runL; rw [hR]
  have hK2 : K ≤ 2000 := by have := hT.2.1 (stn 0 0); omega
  have hgl := hsp.lt
  have hHl := ht.lt
  obtain ⟨i0, hi, hz0, hz1, hz2⟩ := info_parts Try.infoIntW
  clear hf hsp ht hT hK hR
  unfold tripV
  go_enter Try.func81, Try.ntmps81
  obtain ⟨T1, hT1⟩ : ∃ T1, w.heap.size = T1 := ⟨_, rfl⟩
  go_wp2_with fail
  obtain ⟨wa, hwa⟩ : ∃ wa, w.alloc (.cells #[.slice (some ⟨g, 0, none⟩) (n + 1) (n + 1), .int .i64 acc, .int .i64 short] 102) = wa := ⟨_, rfl⟩
  have ba : Below w.heap.size w wa := by rw [← hwa]; exact (Below.refl _ _).alloc (Nat.le_refl _) _
  have HBa : Hid (TripAt wa T1 g n acc short) := by show TripAt _ _ _ _ _ _; rw [← hwa, ← hT1]; exact TripAt.new w g n acc short
  have sa : wa.heap.size = T1 + 1 := by rw [← hwa, ← hT1]; simp
  rw [hwa]
  clear hwa
  obtain ⟨wb, hwb⟩ : ∃ wb, wa.alloc (.cells #[.int .i64 0, .int .i64 0] 110) = wb := ⟨_, rfl⟩
  have bb : Below wa.heap.size wa wb := by rw [← hwb]; exact (Below.refl _ _).alloc (Nat.le_refl _) _
  have HSb : Hid (StAt wb (T1 + 1) 0 0) := by show StAt _ _ _ _; rw [← hwb, ← sa]; exact StAt.new wa 0 0
  rw [hwb]
  clear hwb
  have HBb : Hid (TripAt wb T1 g n acc short) := HBa.out.below bb
  have bAll : Below w.heap.size w wb := ba.trans (bb.mono ba.size)
  have HPb : Hid (P.Spots wb g n x) := HSP.out.below bAll
  have HTb : Hid (Tab wb H L) := HT.out.below bAll
  have HRT : Hid (∀ y, 1 ≤ P.rate y) := fun y => (HF.out.rate y).1
  have HFW : Hid (Fewest (P.way acc x) (P.homeN x short) (Fw.few P acc x short)) := Fw.is P acc x short
  have HKF : Hid (Fw.few P acc x short (stn 0 0) = K) := (HTD.out.1 (stn 0 0) K hK2).1 HK.out
  clear ba bb HBa sa HSP HT HK
  go_loopw [5, 6] (fun sv sp wr => ∃ (S k : Nat) (d u : Int) (pre : List Int) (a : Option Addr) (c : Nat), sv = .slice a pre.length c ∧ sp = .pointer (some ⟨S, 0, none⟩) ∧ T1 < S ∧ k ≤ K ∧ (0 ≤ d ∧ x + d ≤ P.fin) ∧ (0 ≤ u ∧ u ≤ 60) ∧ Hid (Fw.few P acc x short (stn d u) = k) ∧ pre.length + k = K ∧ Hid (pre ++ P.fastL acc x (Fw.few P acc x short) k d u = Fw.runL P acc x short) ∧ Hid (TripAt wr T1 g n acc short) ∧ Hid (StAt wr S d u) ∧ Hid (P.Spots wr g n x) ∧ Hid (Tab wr H L) ∧ Hid (wr.ownsRow T1 3 1 (.slice a pre.length c) pre.length (singles (nth (Fw.runL P acc x short)) pre.length)) ∧ Hid (Below w.heap.size w wr)) (fun sv _ _ => K - lenV sv)
  case atStart => exact ⟨T1 + 1, K, 0, 0, [], none, 0, rfl, rfl, by omega, Nat.le_refl _, ⟨by omega, by omega⟩, ⟨by omega, by omega⟩, HKF.out, by simp, by show _ = _; rw [List.nil_append]; exact HRL.out, HBb.out, HSb.out, HPb.out, HTb.out, World.ownsRow_nil _ _ _ _, bAll⟩
  case round =>
    clear HBb HSb HPb HTb bAll HKF HRL
    obtain ⟨S, k, d, u, pre, av, cv, rfl, rfl, hTS, hk, ⟨d0, d1⟩, ⟨u0, u1⟩, HFD, hpre, HPL, HB0, HS0, HP0, HT0, HO0, HW0⟩ := hrel
    have hLk : L (stn d u) = k := (HTD.out.1 (stn d u) k (by omega)).2 HFD.out
    have hSl := HS0.out.lt
    obtain ⟨p0, p1, p2⟩ := HB0.out.cells
    obtain ⟨r0, r1⟩ := HS0.out.cells
    go_wp2_with fail
    refine (of_any wr H L d u HT0.out d0 (by omega) u0 u1).mono ?_
    rw [hLk]
    rintro e w1 ⟨rfl, hb1⟩
    clear p0 p1 p2 r0 r1
    have HB1 : Hid (TripAt w1 T1 g n acc short) := HB0.out.below hb1
    have HS1 : Hid (StAt w1 S d u) := HS0.out.below hb1
    have HP1 : Hid (P.Spots w1 g n x) := HP0.out.below hb1
    have HT1 : Hid (Tab w1 H L) := HT0.out.below hb1
    have HO1 : Hid (w1.ownsRow T1 3 1 (.slice av pre.length cv) pre.length (singles (nth (Fw.runL P acc x short)) pre.length)) := ownsRow_below HO0.out hb1
    have HW1 : Hid (Below w.heap.size w w1) := HW0.out.trans (hb1.mono HW0.out.size)
    clear HB0 HS0 HP0 HT0 HO0 HW0
    have hSl1 := HS1.out.lt
    obtain ⟨p0, p1, p2⟩ := HB1.out.cells
    obtain ⟨r0, r1⟩ := HS1.out.cells
    by_cases hlt : 0 < k
    · obtain ⟨k', rfl⟩ : ∃ k', k = k' + 1 := ⟨k - 1, by omega⟩
      obtain ⟨hgo, hLn, _⟩ := P.fleet_is HRT.out (by omega) HFW.out d0 d1 u0 u1 HFD.out
      have HTOP : Hid (∀ q, P.goes acc x d u q = true → Fw.few P acc x short (stn (d + q) q) = k' → q ≤ P.fleet acc x (Fw.few P acc x short) k' d u) := fun q hg hq => P.fleet_top HRT.out (by omega) HFW.out d0 d1 u0 u1 HFD.out hg hq
      have HPL' : Hid (pre ++ P.fleet acc x (Fw.few P acc x short) k' d u :: P.fastL acc x (Fw.few P acc x short) k' (d + P.fleet acc x (Fw.few P acc x short) k' d u) (P.fleet acc x (Fw.few P acc x short) k' d u) = Fw.runL P acc x short) := HPL.out
      have hgi := Prof.goes_in HRT.out (by omega) u0 u1 hgo
      obtain ⟨F0, F1, F2⟩ := hgi
      have hgt := (Prof.goes_top HF.out (by omega) u0 u1 d1).1 hgo
      have HGT : Hid (∀ q, P.goes acc x d u q = true ↔ max (u - P.rate (x + d)) 0 ≤ q ∧ q ≤ min (u + acc) (P.top (x + d))) := fun q => Prof.goes_top HF.out (by omega) u0 u1 d1
      obtain ⟨tp0, tp1, tp2⟩ := P.top_in HF.out d1
      have HLN : Hid (Fw.few P acc x short (stn (d + P.fleet acc x (Fw.few P acc x short) k' d u) (P.fleet acc x (Fw.few P acc x short) k' d u)) = (k' : Nat)) := hLn
      clear HPL hgo hLn
      generalize P.fleet acc x (Fw.few P acc x short) k' d u = F at *
      have hlt' : (1 : Int) < ((k' + 1 : Nat) : Int) + 1 := by omega
      go_wp2_with fail
      refine (fastest_at P _ g n acc x short d u HP1.out d0 (by omega) hn u0 u1 (by omega) a1).mono ?_
      rintro e w2 ⟨rfl, hb2⟩
      clear p0 p1 p2 r0 r1
      have HB2 : Hid (TripAt w2 T1 g n acc short) := HB1.out.below hb2
      have HS2 : Hid (StAt w2 S d u) := HS1.out.below hb2
      have HP2 : Hid (P.Spots w2 g n x) := HP1.out.below hb2
      have HT2 : Hid (Tab w2 H L) := HT1.out.below hb2
      have HO2 : Hid (w2.ownsRow T1 3 1 (.slice av pre.length cv) pre.length (singles (nth (Fw.runL P acc x short)) pre.length)) := ownsRow_below HO1.out hb2
      have HW2 : Hid (Below w.heap.size w w2) := HW1.out.trans (hb2.mono HW1.out.size)
      clear HB1 HS1 HP1 HT1 HO1 HW1
      have hhi0 : F ≤ min (u + acc) (P.top (x + d)) := hgt.2
      have hhi1 : x + d + min (u + acc) (P.top (x + d)) ≤ P.fin := by omega
      have hhi2 : min (u + acc) (P.top (x + d)) ≤ 60 := by omega
      have hlo0 : max (u - P.rate (x + d)) 0 ≤ F := hgt.1
      generalize min (u + acc) (P.top (x + d)) = hi' at *
      generalize max (u - P.rate (x + d)) 0 = lo at *
      clear hgt tp0 tp1 tp2
      go_wp2_with fail
      go_loopw [7] (fun sq wr => ∃ q : Int, sq = .int .i64 q ∧ F ≤ q ∧ q ≤ hi' ∧ Hid (TripAt wr T1 g n acc short) ∧ Hid (StAt wr S d u) ∧ Hid (P.Spots wr g n x) ∧ Hid (Tab wr H L) ∧ Hid (wr.ownsRow T1 3 1 (.slice av pre.length cv) pre.length (singles (nth (Fw.runL P acc x short)) pre.length)) ∧ Hid (Below w.heap.size w wr)) (fun sq _ => (intOf sq).toNat)
      case atStart => exact ⟨hi', rfl, hhi0, Int.le_refl _, HB2.out, HS2.out, HP2.out, HT2.out, HO2.out, HW2.out⟩
      case round =>
        clear HB2 HS2 HP2 HT2 HO2 HW2
        obtain ⟨q, rfl, hq0, hq1, HB3, HS3, HP3, HT3, HO3, HW3⟩ := hrel
        have cA : ∀ dd os, Calls Try.prog 90 #[.agg #[.int .i64 d, .int .i64 u], .int .i64 q] (Sort.grow (redrawn wr dd) os) fun e w'' => e = .returned (.agg #[.int .i64 (d + q), .int .i64 q]) ∧ ∃ p : Regrown, w'' = Sort.grow (redrawn wr p.d) p.os := fun dd os => Calls.regrown_of (after_any _ d u q d0 (by omega) (by omega) (by omega))
        have cO : ∀ dd os (d' v' : Int), ((d' = d + q ∧ v' = q) ∨ (d' = d ∧ v' = u)) → Calls Try.prog 80 #[.pointer (some ⟨H, 0, none⟩), .agg #[.int .i64 d', .int .i64 v']] (Sort.grow (redrawn wr dd) os) fun e w'' => e = .returned (.int .i16 (L (stn d' v') + 1)) ∧ ∃ p : Regrown, w'' = Sort.grow (redrawn wr p.d) p.os := fun dd os d' v' h => Calls.regrown_of (of_any _ H L d' v' (HT3.out.below (below_regrown wr dd os)) (by omega) (by omega) (by omega) (by omega))
        have z0 := cell_regrown HS3.out.cells.1
        have z1 := cell_regrown HS3.out.cells.2
        have hlow := HTD.out.2.2 (stn (d + q) q)
        have htop := HTD.out.2.1 (stn (d + q) q)
        go_wp2_with fail
        refine wp_region_quiet_below (by kernel_rfl) (by kernel_rfl) ?_
        repeat (go_big_quiet_step (first | (go_at_call 90; exact cA _ _) | (go_at_call 80; exact cO _ _ _ _ (by first | exact Or.inl ⟨rfl, rfl⟩ | exact Or.inr ⟨rfl, rfl⟩))))
        refine wpQuiet_nil ?_
        intro _ hw'
        obtain ⟨⟨dq, osq⟩, hw''⟩ := hw'
        subst hw''
        have hq := below_regrown wr dq osq
        clear cA cO z0 z1
        generalize Sort.grow (redrawn wr dq) osq = w4 at *
        have HB4 : Hid (TripAt w4 T1 g n acc short) := HB3.out.below hq
        have HS4 : Hid (StAt w4 S d u) := HS3.out.below hq
        have HP4 : Hid (P.Spots w4 g n x) := HP3.out.below hq
        have HT4 : Hid (Tab w4 H L) := HT3.out.below hq
        have HO4 : Hid (w4.ownsRow T1 3 1 (.slice av pre.length cv) pre.length (singles (nth (Fw.runL P acc x short)) pre.length)) := ownsRow_below HO3.out hq
        have HW4 : Hid (Below w.heap.size w w4) := HW3.out.trans (hq.mono HW3.out.size)
        clear HB3 HS3 HP3 HT3 HO3 HW3
        by_cases hqk : L (stn (d + q) q) = (k' : Int)
        · have hne : (L (stn (d + q) q) + 1 != (k' : Int) + 1) = false := by rw [hqk]; simp
          have hqF : q = F := by
            have := HTOP.out q ((HGT.out q).2 ⟨by omega, hq1⟩) ((HTD.out.1 (stn (d + q) q) k' (by omega)).1 hqk)
            omega
          subst hqF
          clear HTOP HGT hlow htop hqk
          obtain ⟨r0, r1⟩ := HS4.out.cells
          go_wp2_with fail
          refine (after_any w4 d u q d0 (by omega) F0 F1).mono ?_
          unfold stV
          rintro e w5 ⟨rfl, hb5⟩
          clear r0 r1
          have HB5 : Hid (TripAt w5 T1 g n acc short) := HB4.out.below hb5
          have HS5 : Hid (StAt w5 S d u) := HS4.out.below hb5
          have HP5 : Hid (P.Spots w5 g n x) := HP4.out.below hb5
          have HT5 : Hid (Tab w5 H L) := HT4.out.below hb5
          have HO5 : Hid (w5.ownsRow T1 3 1 (.slice av pre.length cv) pre.length (singles (nth (Fw.runL P acc x short)) pre.length)) := ownsRow_below HO4.out hb5
          have HW5 : Hid (Below w.heap.size w w5) := HW4.out.trans (hb5.mono HW4.out.size)
          clear HB4 HS4 HP4 HT4 HO4 HW4
          obtain ⟨r0, r1⟩ := HS5.out.cells
          have rf := HS5.out.frozen
          have hnS := own_type HO5.out HS5.out (by decide)
          have HO6 : Hid (((w5.setCell ⟨S, 0, none⟩ (.int .i64 (d + q))).setCell ⟨S, 1, none⟩ (.int .i64 q)).ownsRow T1 3 1 (.slice av pre.length cv) pre.length (singles (nth (Fw.runL P acc x short)) pre.length)) := own_two HO5.out hnS _ _
          have HS6 : Hid (StAt ((w5.setCell ⟨S, 0, none⟩ (.int .i64 (d + q))).setCell ⟨S, 1, none⟩ (.int .i64 q)) S (d + q) q) := HS5.out.set _ _
          have hSl5 := HS5.out.lt
          have HB6 : Hid (TripAt ((w5.setCell ⟨S, 0, none⟩ (.int .i64 (d + q))).setCell ⟨S, 1, none⟩ (.int .i64 q)) T1 g n acc short) := World.rowIs.setOther (World.rowIs.setOther HB5.out (by simp; omega) _) (by simp; omega) _
          have HP6 : Hid (P.Spots ((w5.setCell ⟨S, 0, none⟩ (.int .i64 (d + q))).setCell ⟨S, 1, none⟩ (.int .i64 q)) g n x) := World.rowIs.setOther (World.rowIs.setOther HP5.out (by simp; omega) _) (by simp; omega) _
          have HT6 : Hid (Tab ((w5.setCell ⟨S, 0, none⟩ (.int .i64 (d + q))).setCell ⟨S, 1, none⟩ (.int .i64 q)) H L) := World.rowIs.setOther (World.rowIs.setOther HT5.out (by simp; omega) _) (by simp; omega) _
          have HW6 : Hid (Below w.heap.size w ((w5.setCell ⟨S, 0, none⟩ (.int .i64 (d + q))).setCell ⟨S, 1, none⟩ (.int .i64 q))) := (HW5.out.setCell (by simp; omega) _).setCell (by simp; omega) _
          clear HB5 HS5 HP5 HT5 HO5 HW5
          have HN : Hid (T1 ≤ (((w5.setCell ⟨S, 0, none⟩ (.int .i64 (d + q))).setCell ⟨S, 1, none⟩ (.int .i64 q)).alloc (.cells #[.int .i64 q] 3)).heap.size) := by show _ ≤ _; simp; omega
          go_wp2_with (first | (at_builtin; refine wpList_append_own _ rfl _ _ 27 rfl T1 3 i0 (.int .i64 0) 1 8 Try.underlying27 hi hz0 hz1 hz2 rfl (by decide) _ _ _ rfl (HO6.out.alloc _) ⟨w5.heap.size, 0, none⟩ 1 1 [.int .i64 q] rfl rfl (alloc_add1 _ _ _ _ (by simp)) ?c2 ?c3 ?c4 HN.out ?_))
          case c2 => intro u hu; simp at hu; subst hu; rfl
          case c3 => unfold maxLen; omega
          case c4 => omega
          intro v9 w9 hown hgrow _
          obtain ⟨av9, cv9, rfl, _, _, _⟩ := owned_shape hown
          have hob := ownsRow_block HO6.out
          have HS9 : Hid (StAt w9 S (d + q) q) := watch_row (World.rowIs.alloc HS6.out _) hgrow (fun e => hnS e.symm)
          have HB9 : Hid (TripAt w9 T1 g n acc short) := watch_row (World.rowIs.alloc HB6.out _) hgrow (fun e => own_type HO6.out HB6.out (by decide) e.symm)
          have HP9 : Hid (P.Spots w9 g n x) := watch_row (World.rowIs.alloc HP6.out _) hgrow (fun e => by have := hob _ e.symm; omega)
          have HT9 : Hid (Tab w9 H L) := watch_row (World.rowIs.alloc HT6.out _) hgrow (fun e => by have := hob _ e.symm; omega)
          have HW9 : Hid (Below w.heap.size w w9) := (HW6.out.alloc HW6.out.size _).grown hgrow (by have := HN.out; omega) (fun j e => by have := hob _ e; omega)
          have en : nth (Fw.runL P acc x short) pre.length = q := by rw [← HPL'.out]; exact nth_app pre q _
          have HO9 : Hid (w9.ownsRow T1 3 1 (.slice av9 (pre ++ [q]).length cv9) (pre ++ [q]).length (singles (nth (Fw.runL P acc x short)) (pre ++ [q]).length)) := by
            show World.ownsRow _ _ _ _ _ _ _
            rw [List.length_append, List.length_singleton, singles, en]
            exact hown
          have HPL2 : Hid ((pre ++ [q]) ++ P.fastL acc x (Fw.few P acc x short) k' (d + q) q = Fw.runL P acc x short) := by show _ = _; rw [← HPL'.out]; simp
          obtain ⟨q0, q1⟩ := HS9.out.cells
          have hS9l := HS9.out.lt
          clear hown hgrow hob HS6 HB6 HP6 HT6 HW6 HO6 HN en HPL'
          have bA : Below w9.heap.size w9 (w9.alloc (.cells #[.int .i64 (d + q), .int .i64 q] 110)) := (Below.refl _ _).alloc (Nat.le_refl _) _
          have hlenq : (pre ++ [q]).length = pre.length + 1 := by simp
          go_wp2
          refine ⟨⟨w9.heap.size, k', d + q, q, pre ++ [q], av9, cv9, by rw [hlenq], rfl, by omega, by omega, ⟨by omega, by omega⟩, ⟨F0, F1⟩, HLN.out, by rw [hlenq]; omega, HPL2.out, HB9.out.below bA, StAt.new w9 (d + q) q, HP9.out.below bA, HT9.out.below bA, ownsRow_below HO9.out bA, HW9.out.trans (bA.mono HW9.out.size)⟩, ?_⟩
          simp [lenV]
          omega
        · have hne : (L (stn (d + q) q) + 1 != (k' : Int) + 1) = true := by simp; omega
          have hqF : q ≠ F := fun e => hqk (by rw [e]; exact (HTD.out.1 _ k' (by omega)).2 HLN.out)
          go_wp2
          go_roundw
          case rel => exact ⟨q - 1, rfl, by omega, by omega, HB4.out, HS4.out, HP4.out, HT4.out, HO4.out, HW4.out⟩
          case measure => simp [intOf]; omega
    · have e : k = 0 := by omega
      subst e
      have eK : pre.length = K := by omega
      have hgt1 : decide ((1 : Int) < ((0 : Nat) : Int) + 1) = false := by simp
      go_wp2
      go_ret
      refine ⟨_, rfl, ?_, HW1.out⟩
      have := HO1.out
      rw [← hT1, eK] at this
      exact this

set_option maxRecDepth 20000 in
set_option maxHeartbeats 8000000 in
theorem implFastest_good {Fw : Few} (P : Prof) (v : Value) (acc x short : Int) (w : World) (hl : P.Lies w v) (hg : P.runGood acc x short = true) :
    (Fw.hasRun P acc x short → Calls Try.prog 34 #[v, .int .i64 acc, .int .i64 x, .int .i64 short] w fun e w' => ∃ v', e = .returned (.agg #[.bool true, .int .i64 (Fw.runT P acc x short), v']) ∧ w'.ownsRow w.heap.size 3 1 v' (Fw.runT P acc x short) (singles (nth (Fw.runL P acc x short)) (Fw.runT P acc x short)) ∧ Below w.heap.size w w') ∧
    (¬ Fw.hasRun P acc x short → Calls Try.prog 34 #[v, .int .i64 acc, .int .i64 x, .int .i64 short] w fun e w' => e = .returned (.agg #[.bool false, .int .i64 0, .slice none 0 0]) ∧ Below w.heap.size w w') := by
  have HV : Hid (P.Lies w v) := hl
  have HG : Hid (P.runGood acc x short = true) := hg
  obtain ⟨hok, ⟨a0, a1⟩, ⟨g0, g1⟩, g2, ⟨s0, s1⟩⟩ := Prof.runGood_iff.1 hg
  have HF : Hid P.Fit := hok.fit
  obtain ⟨n, hN⟩ : ∃ n : Nat, P.fin - x = (n : Int) := ⟨(P.fin - x).toNat, by omega⟩
  have hn : n ≤ 2000 := by omega
  obtain ⟨ap, cp, az, cz, rfl, hnp, hnz, hr2, hr3⟩ := hl
  clear hr2 hr3 hg hok
  refine ⟨fun h => ?_, fun h => ?_⟩
  · have HH : Hid (Fw.hasRun P acc x short) := h
    clear h
    go_enter Try.func34, Try.ntmps34
    go_wp2_with fail
    generalize hW : (w.alloc _).alloc _ = W
    have bW : Below w.heap.size w W := by rw [← hW]; exact ((Below.refl _ _).alloc (Nat.le_refl _) _).alloc (by simp) _
    have rR : W.rowIs (w.heap.size + 1) 48 3 (r3 false 0 (.slice none 0 0)) := by
      have := World.rowIs_alloc (w.alloc (.cells #[.slice ap P.np cp, .slice az P.nz cz, .int .i64 P.train, .int .i64 P.fin, .int .i64 P.delay] 26)) #[.bool false, .int .i64 0, .slice none 0 0] 48 (r3 false 0 (.slice none 0 0)) (fun i hi => by simp at hi; match i, hi with | 0, _ => rfl | 1, _ => rfl | 2, _ => rfl)
      rw [World.size_alloc] at this
      rw [← hW]; exact this
    clear hW
    refine (tripWith_yes P _ acc x short n _ (HV.out.below bW) HG.out hN).mono ?_
    rintro e w2 ⟨g, rfl, hgs, hsp, hb2⟩
    have b2 := bW.trans (hb2.mono bW.size)
    have HR2 : Hid (w2.rowIs (w.heap.size + 1) 48 3 (r3 false 0 (.slice none 0 0))) := rowIs_below rR hb2
    obtain ⟨w3, hw3⟩ : ∃ w3, w2.alloc (.cells #[.slice (some ⟨g, 0, none⟩) (n + 1) (n + 1), .int .i64 acc, .int .i64 short] 102) = w3 := ⟨_, rfl⟩
    have bq3 : Below w2.heap.size w2 w3 := by rw [← hw3]; exact (Below.refl _ _).alloc (Nat.le_refl _) _
    obtain ⟨TB, hTB⟩ : ∃ TB, w2.heap.size = TB := ⟨_, rfl⟩
    have HT3 : Hid (TripAt w3 TB g n acc short) := by show TripAt _ _ _ _ _ _; rw [← hw3, ← hTB]; exact TripAt.new w2 g n acc short
    have HP3 : Hid (P.Spots w3 g n x) := hsp.below bq3
    have HR3 : Hid (w3.rowIs (w.heap.size + 1) 48 3 (r3 false 0 (.slice none 0 0))) := rowIs_below HR2.out bq3
    have b3 := b2.trans (bq3.mono b2.size)
    have hsw := HR2.out.lt
    clear hb2 hsp bW rR HR2 bq3
    obtain ⟨p0, p1, p2⟩ := HT3.out.cells
    go_wp2_with fail
    clear p0 p1 p2 hw3
    refine (roundsHome_any (Fw := Fw) P w3 g n acc x short HF.out g0 hN hn a0 a1 s0 s1 HP3.out).mono ?_
    rintro e w4 ⟨H, L, rfl, ht4, htd, hH, hb4⟩
    have HTD : Hid (Fw.Told P acc x short L) := htd
    have HT4 : Hid (TripAt w4 TB g n acc short) := HT3.out.below hb4
    have HP4 : Hid (P.Spots w4 g n x) := HP3.out.below hb4
    have HR4 : Hid (w4.rowIs (w.heap.size + 1) 48 3 (r3 false 0 (.slice none 0 0))) := rowIs_below HR3.out hb4
    have HTb4 : Hid (Tab w4 H L) := ht4
    have b4 := b3.trans (hb4.mono b3.size)
    clear ht4 htd hb4 HT3 HP3 HR3 b3 b2
    have hlow := HTD.out.2.2 (stn 0 0)
    have htop := HTD.out.2.1 (stn 0 0)
    have HFA : Hid ((0 ≤ L (stn 0 0) ∧ L (stn 0 0) ≤ 2000) ↔ (0 ≤ Fw.few P acc x short (stn 0 0) ∧ Fw.few P acc x short (stn 0 0) ≤ 2000)) := Few.few_at HTD.out.1
    go_wp2_with fail
    refine (of_any w4 H L 0 0 HTb4.out (by omega) (by omega) (by omega) (by omega)).mono ?_
    rintro e w5 ⟨rfl, hb5⟩
    have HT5 : Hid (TripAt w5 TB g n acc short) := HT4.out.below hb5
    have HP5 : Hid (P.Spots w5 g n x) := HP4.out.below hb5
    have HR5 : Hid (w5.rowIs (w.heap.size + 1) 48 3 (r3 false 0 (.slice none 0 0))) := rowIs_below HR4.out hb5
    have HTb5 : Hid (Tab w5 H L) := HTb4.out.below hb5
    have b5 := b4.trans (hb5.mono b4.size)
    clear hb5 HT4 HP4 HR4 HTb4 b4
    have hL0 : 0 ≤ L (stn 0 0) := (HFA.out.2 HH.out.2).1
    obtain ⟨K, hKL⟩ : ∃ K : Nat, L (stn 0 0) = K := ⟨(L (stn 0 0)).toNat, by omega⟩
    have hKR : Fw.runT P acc x short = K := by
      have := (HTD.out.1 (stn 0 0) K (by omega)).1 hKL
      unfold Few.runT
      omega
    have HKL : Hid (L (stn 0 0) = K) := hKL
    have HKR : Hid (Fw.runT P acc x short = K) := hKR
    rw [hKL]
    have hne0 : ((K : Int) + 1 == 0) = false := by simp; omega
    have hK2 : K ≤ 2000 := by omega
    clear hKL hKR hL0 hlow htop HFA
    obtain ⟨p0, p1, p2⟩ := HT5.out.cells
    go_wp2_with fail
    clear p0 p1 p2
    refine (speedsHome_any P w5 g n H K acc x short L HF.out g0 hN hn a0 a1 s0 s1 HP5.out HTb5.out HTD.out HKL.out HKR.out).mono ?_
    rintro e w6 ⟨v', rfl, hown, hb6⟩
    obtain ⟨av, cv, rfl, _, _, _⟩ := owned_shape hown
    have HR6 : Hid (w6.rowIs (w.heap.size + 1) 48 3 (r3 false 0 (.slice none 0 0))) := rowIs_below HR5.out hb6
    have HO6 : Hid (w6.ownsRow w5.heap.size 3 1 (.slice av K cv) K (singles (nth (Fw.runL P acc x short)) K)) := hown
    have b6 := b5.trans (hb6.mono b5.size)
    have s5 := HR5.out.lt
    clear hown hb6 HT5 HP5 HR5 HTb5
    have q0 : w6.cell? ⟨w.heap.size + 1, 0, none⟩ = some (.bool false) := HR6.out.cell (i := 0) (by omega)
    have q1 : w6.cell? ⟨w.heap.size + 1, 1, none⟩ = some (.int .i64 0) := HR6.out.cell (i := 1) (by omega)
    have q2 : w6.cell? ⟨w.heap.size + 1, 2, none⟩ = some (.slice none 0 0) := HR6.out.cell (i := 2) (by omega)
    have rf := HR6.out.frozen
    go_wp2
    refine bodyPost_ret (v := .agg #[.bool true, .int .i64 K, .slice av K cv]) (by simp [results, Try.results34, go_sem, *]) rfl ⟨.slice av K cv, by rw [HKR.out], ?_, ?_⟩
    · rw [HKR.out]
      have o3 := HO6.out
      have q2 := owned_grown o3 (watch_set _ (w.heap.size + 1) 0 (.bool true)) (fun j e he => by have h1 := ownsRow_block o3 j he; have h2 := Option.some.inj e; omega)
      have q3 := owned_grown q2 (watch_set _ (w.heap.size + 1) 1 (.int .i64 K)) (fun j e he => by have h1 := ownsRow_block q2 j he; have h2 := Option.some.inj e; omega)
      have q4 := owned_grown q3 (watch_set _ (w.heap.size + 1) 2 (.slice av K cv)) (fun j e he => by have h1 := ownsRow_block q3 j he; have h2 := Option.some.inj e; omega)
      exact watch_base q4 b5.size
    · iterate 3 refine Below.setCell ?_ (by simp) _
      exact b6
  · have HH : Hid (¬ Fw.hasRun P acc x short) := h
    clear h
    go_enter Try.func34, Try.ntmps34
    go_wp2_with fail
    generalize hW : (w.alloc _).alloc _ = W
    have bW : Below w.heap.size w W := by rw [← hW]; exact ((Below.refl _ _).alloc (Nat.le_refl _) _).alloc (by simp) _
    have rR : W.rowIs (w.heap.size + 1) 48 3 (r3 false 0 (.slice none 0 0)) := by
      have := World.rowIs_alloc (w.alloc (.cells #[.slice ap P.np cp, .slice az P.nz cz, .int .i64 P.train, .int .i64 P.fin, .int .i64 P.delay] 26)) #[.bool false, .int .i64 0, .slice none 0 0] 48 (r3 false 0 (.slice none 0 0)) (fun i hi => by simp at hi; match i, hi with | 0, _ => rfl | 1, _ => rfl | 2, _ => rfl)
      rw [World.size_alloc] at this
      rw [← hW]; exact this
    clear hW
    refine (tripWith_yes P _ acc x short n _ (HV.out.below bW) HG.out hN).mono ?_
    rintro e w2 ⟨g, rfl, hgs, hsp, hb2⟩
    have b2 := bW.trans (hb2.mono bW.size)
    have HR2 : Hid (w2.rowIs (w.heap.size + 1) 48 3 (r3 false 0 (.slice none 0 0))) := rowIs_below rR hb2
    obtain ⟨w3, hw3⟩ : ∃ w3, w2.alloc (.cells #[.slice (some ⟨g, 0, none⟩) (n + 1) (n + 1), .int .i64 acc, .int .i64 short] 102) = w3 := ⟨_, rfl⟩
    have bq3 : Below w2.heap.size w2 w3 := by rw [← hw3]; exact (Below.refl _ _).alloc (Nat.le_refl _) _
    obtain ⟨TB, hTB⟩ : ∃ TB, w2.heap.size = TB := ⟨_, rfl⟩
    have HT3 : Hid (TripAt w3 TB g n acc short) := by show TripAt _ _ _ _ _ _; rw [← hw3, ← hTB]; exact TripAt.new w2 g n acc short
    have HP3 : Hid (P.Spots w3 g n x) := hsp.below bq3
    have HR3 : Hid (w3.rowIs (w.heap.size + 1) 48 3 (r3 false 0 (.slice none 0 0))) := rowIs_below HR2.out bq3
    have b3 := b2.trans (bq3.mono b2.size)
    have hsw := HR2.out.lt
    clear hb2 hsp bW rR HR2 bq3
    obtain ⟨p0, p1, p2⟩ := HT3.out.cells
    go_wp2_with fail
    clear p0 p1 p2 hw3
    refine (roundsHome_any (Fw := Fw) P w3 g n acc x short HF.out g0 hN hn a0 a1 s0 s1 HP3.out).mono ?_
    rintro e w4 ⟨H, L, rfl, ht4, htd, hH, hb4⟩
    have HTD : Hid (Fw.Told P acc x short L) := htd
    have HT4 : Hid (TripAt w4 TB g n acc short) := HT3.out.below hb4
    have HP4 : Hid (P.Spots w4 g n x) := HP3.out.below hb4
    have HR4 : Hid (w4.rowIs (w.heap.size + 1) 48 3 (r3 false 0 (.slice none 0 0))) := rowIs_below HR3.out hb4
    have HTb4 : Hid (Tab w4 H L) := ht4
    have b4 := b3.trans (hb4.mono b3.size)
    clear ht4 htd hb4 HT3 HP3 HR3 b3 b2
    have hlow := HTD.out.2.2 (stn 0 0)
    have htop := HTD.out.2.1 (stn 0 0)
    have HFA : Hid ((0 ≤ L (stn 0 0) ∧ L (stn 0 0) ≤ 2000) ↔ (0 ≤ Fw.few P acc x short (stn 0 0) ∧ Fw.few P acc x short (stn 0 0) ≤ 2000)) := Few.few_at HTD.out.1
    go_wp2_with fail
    refine (of_any w4 H L 0 0 HTb4.out (by omega) (by omega) (by omega) (by omega)).mono ?_
    rintro e w5 ⟨rfl, hb5⟩
    have HT5 : Hid (TripAt w5 TB g n acc short) := HT4.out.below hb5
    have HP5 : Hid (P.Spots w5 g n x) := HP4.out.below hb5
    have HR5 : Hid (w5.rowIs (w.heap.size + 1) 48 3 (r3 false 0 (.slice none 0 0))) := rowIs_below HR4.out hb5
    have HTb5 : Hid (Tab w5 H L) := HTb4.out.below hb5
    have b5 := b4.trans (hb5.mono b4.size)
    clear hb5 HT4 HP4 HR4 HTb4 b4
    have hL0 : L (stn 0 0) = -1 := by
      rcases Int.lt_or_le (L (stn 0 0)) 0 with c | c
      · omega
      · exact absurd ⟨HG.out, HFA.out.1 ⟨c, htop⟩⟩ HH.out
    rw [hL0]
    have q0 : w5.cell? ⟨w.heap.size + 1, 0, none⟩ = some (.bool false) := HR5.out.cell (i := 0) (by omega)
    have q1 : w5.cell? ⟨w.heap.size + 1, 1, none⟩ = some (.int .i64 0) := HR5.out.cell (i := 1) (by omega)
    have q2 : w5.cell? ⟨w.heap.size + 1, 2, none⟩ = some (.slice none 0 0) := HR5.out.cell (i := 2) (by omega)
    have rf := HR5.out.frozen
    clear hL0 hlow htop HFA
    go_wp2
    refine bodyPost_ret (v := .agg #[.bool false, .int .i64 0, .slice none 0 0]) (by simp [results, Try.results34, go_sem, *]) rfl ⟨rfl, ?_⟩
    iterate 3 refine Below.setCell ?_ (by simp) _
    exact b5

set_option maxHeartbeats 4000000 in
theorem implFastest_bad (P : Prof) (v : Value) (acc x short : Int) (w : World) (hl : P.Lies w v) (hg : P.runGood acc x short = false) :
    Calls Try.prog 34 #[v, .int .i64 acc, .int .i64 x, .int .i64 short] w fun e w' => e = .returned (.agg #[.bool false, .int .i64 0, .slice none 0 0]) ∧ Below w.heap.size w w' := by
  have HV : Hid (P.Lies w v) := hl
  have HG : Hid (P.runGood acc x short = false) := hg
  obtain ⟨ap, cp, az, cz, rfl, hnp, hnz, hr2, hr3⟩ := hl
  clear hr2 hr3 hg
  go_enter Try.func34, Try.ntmps34
  go_wp2_with fail
  generalize hW : (w.alloc _).alloc _ = W
  have bW : Below w.heap.size w W := by rw [← hW]; exact ((Below.refl _ _).alloc (Nat.le_refl _) _).alloc (by simp) _
  have rR : W.rowIs (w.heap.size + 1) 48 3 (r3 false 0 (.slice none 0 0)) := by
    have := World.rowIs_alloc (w.alloc (.cells #[.slice ap P.np cp, .slice az P.nz cz, .int .i64 P.train, .int .i64 P.fin, .int .i64 P.delay] 26)) #[.bool false, .int .i64 0, .slice none 0 0] 48 (r3 false 0 (.slice none 0 0)) (fun i hi => by simp at hi; match i, hi with | 0, _ => rfl | 1, _ => rfl | 2, _ => rfl)
    rw [World.size_alloc] at this
    rw [← hW]; exact this
  clear hW
  have hcon : Calls Try.prog 78 #[.agg #[.slice ap P.np cp, .slice az P.nz cz, .int .i64 P.train, .int .i64 P.fin, .int .i64 P.delay], .int .i64 acc, .int .i64 x, .int .i64 short] W fun e w' => ∃ z : Nat, e = .returned (.tuple #[.agg #[.slice none 0 z, .int .i64 0, .int .i64 0], .bool false]) ∧ Below W.heap.size W w' := (tripWith_no P _ acc x short _ (HV.out.below bW) HG.out).mono (fun e w' q => ⟨0, q.1, q.2⟩)
  refine hcon.mono ?_
  clear hcon
  rintro e w2 ⟨z, rfl, hb2⟩
  have b2 := bW.trans (hb2.mono bW.size)
  have HR2 : Hid (w2.rowIs (w.heap.size + 1) 48 3 (r3 false 0 (.slice none 0 0))) := rowIs_below rR hb2
  have q0 : w2.cell? ⟨w.heap.size + 1, 0, none⟩ = some (.bool false) := HR2.out.cell (i := 0) (by omega)
  have q1 : w2.cell? ⟨w.heap.size + 1, 1, none⟩ = some (.int .i64 0) := HR2.out.cell (i := 1) (by omega)
  have q2 : w2.cell? ⟨w.heap.size + 1, 2, none⟩ = some (.slice none 0 0) := HR2.out.cell (i := 2) (by omega)
  have rf := HR2.out.frozen
  have hsw := HR2.out.lt
  clear hb2 bW rR
  go_wp2
  refine bodyPost_ret (v := .agg #[.bool false, .int .i64 0, .slice none 0 0]) (by simp [results, Try.results34, go_sem, *]) rfl ⟨rfl, ?_⟩
  refine Below.alloc ?_ (by have := b2.size; simp; omega) _
  iterate 3 refine Below.setCell ?_ (by simp) _
  exact b2

theorem implFastest_any {Fw : Few} (P : Prof) (v : Value) (acc x short : Int) (w : World) (hl : P.Lies w v) :
    Calls Try.prog 34 #[v, .int .i64 acc, .int .i64 x, .int .i64 short] w fun e w' => ∃ a c, e = .returned (.agg #[.bool (Fw.runO P acc x short), .int .i64 (Fw.runN P acc x short), .slice a (Fw.runN P acc x short) c]) ∧ w'.ownsRow w.heap.size 3 1 (.slice a (Fw.runN P acc x short) c) (Fw.runN P acc x short) (singles (nth (Fw.runL P acc x short)) (Fw.runN P acc x short)) ∧ Below w.heap.size w w' := by
  cases hg : P.runGood acc x short with
  | false => exact run_join (fun h => absurd h.1 (by rw [hg]; simp)) (fun _ => implFastest_bad P v acc x short w hl hg)
  | true => exact run_join (implFastest_good P v acc x short w hl hg).1 (implFastest_good P v acc x short w hl hg).2

end Go.Proofs.Yteodefmpkljedaa
