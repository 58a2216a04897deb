/-
  The program's reader: one of some words.
-/
import Derived.Test.YteodefmpkljedaaDoorImplRead2
namespace Go.Proofs.YteodefmpkljedaaDoor
open Go.RowKit Go.Sort Go.Shelf
set_option linter.unusedVariables false
set_option linter.unusedSimpArgs false

theorem slice_from (t : List UInt8) (i : Nat) (hi : i ≤ t.length) (w : World) : (Instr.slice 9 (.string ⟨t.toArray⟩) (some (.int .i64 i)) none none).run Tryd.prog w = .ok (.string ⟨(t.drop i).toArray⟩) w := by
  have hs : (⟨t.toArray⟩ : ByteArray).size = t.length := by show t.toArray.size = _; simp
  rw [run_slice_string_l w 9 _ Tryd.underlying9 .i64 (i : Int) (by omega) (by omega)]
  congr 2
  apply ByteArray.ext
  simp [ByteArray.data_extract]
  rw [hs, List.take_of_length_le (by simp)]
theorem wrd_le (id : Nat) : 1 ≤ (wrd id).length ∧ (wrd id).length ≤ 7 := by unfold wrd; split <;> simp
theorem wordF_hit {far id : Nat} {vs : List Nat} {r : List UInt8} (h : alikeN r (wrd id) = (wrd id).length) : wordFrom far (id :: vs) r = Rd.ok id (wrd id).length := by rw [wordFrom, if_pos h]
theorem wordF_miss {far id : Nat} {vs : List Nat} {r : List UInt8} (h : alikeN r (wrd id) < (wrd id).length) : wordFrom far (id :: vs) r = wordFrom (max far (alikeN r (wrd id))) vs r := by rw [wordFrom, if_neg (by omega)]
theorem drop_at {α : Type} {l : List α} {q : Nat} {x : α} (h : l[q]? = some x) : l.drop q = x :: l.drop (q + 1) := by
  have hp : q < l.length := by
    rcases Nat.lt_or_ge q l.length with k | k
    · exact k
    · rw [List.getElem?_eq_none k] at h; cases h
  rw [List.getElem?_eq_getElem hp] at h
  rw [List.drop_eq_getElem_cons hp, Option.some.inj h]
/-- What a word comes to in the program. -/
def WordI (t : List UInt8) (ws : List Nat) (i B : Nat) (e : Ending) (w' : World) : Prop :=
  (∃ id m : Nat, rword ws (t.drop i) = Rd.ok id m ∧ i + m ≤ t.length ∧ e = .returned (.int .i64 (id : Int)) ∧ ReadAt w' B t ((i + m : Nat) : Int)) ∨ (∃ m : Nat, rword ws (t.drop i) = Rd.bad m ∧ e = .panicked (left_ ((i + m : Nat) : Int)))
theorem idx_words (w : World) (id : Nat) (h : id < 8) : (Instr.indexAt 80 (.pointer (some ⟨0, 0, none⟩)) (.int .i64 id)).run Tryd.prog w = .ok (.pointer (some ⟨0, id, none⟩)) w := by
  have h1 : Tryd.prog.arrayLen 80 = 8 := by kernel_rfl
  have h2 : Tryd.prog.elem 80 = 9 := by kernel_rfl
  have h3 : Tryd.prog.underlying 80 = some (.array (Tryd.prog.arrayLen 80) (Tryd.prog.elem 80)) := by rw [h1, h2]; exact Tryd.underlying80
  rw [run_indexAt_array (h := h3), h1, h2, if_pos (by omega)]
  simp [Addr.add, Tryd.sizeOf9]
  try omega

set_option maxRecDepth 20000 in
set_option maxHeartbeats 4000000 in
theorem oneOf_any (t : List UInt8) (ws : List Nat) (B i g cap : Nat) (w : World) (h : ReadAt w B t i) (hw : WordsAt w) (hGB : 0 < B) (hi : i ≤ t.length) (ht : t.length ≤ 3000) (hws : ws.length ≤ 3) (h8 : ∀ id ∈ ws, id < 8) (hgB : g ≠ B) (hl : ∀ j id : Nat, ws[j]? = some id → w.cell? ⟨g, j, none⟩ = some (.int .i64 id)) :
    Calls Tryd.prog 58 #[.pointer (some ⟨B, 0, none⟩), .slice (some ⟨g, 0, none⟩) ws.length cap] w fun e w' => WordI t ws i B e w' ∧ w.grownBy w' (some B) := by
  have HR : Hid (ReadAt w B t i) := h
  have HW : Hid (WordsAt w) := hw
  have HL : Hid (∀ j id : Nat, ws[j]? = some id → w.cell? ⟨g, j, none⟩ = some (.int .i64 id)) := hl
  have H8 : Hid (∀ id ∈ ws, id < 8) := h8
  have hld : (t.drop i).length ≤ 3000 := by rw [List.length_drop]; omega
  have hsl : ∀ w : World, (Instr.slice 9 (.string ⟨t.toArray⟩) (some (.int .i64 i)) none none).run Tryd.prog w = .ok (.string ⟨(t.drop i).toArray⟩) w := slice_from t i hi
  obtain ⟨rest, hrest⟩ : ∃ rest, t.drop i = rest := ⟨_, rfl⟩
  have HRS : Hid (t.drop i = rest) := hrest
  rw [hrest] at hsl hld
  clear h hl hw h8 hrest
  go_enter Tryd.func58, Tryd.ntmps58
  go_wp2_with fail
  go_loopw [5, 11] (fun sf sq wr => ∃ far q : Nat, sf = .int .i64 far ∧ sq = .int .i64 q ∧ q ≤ ws.length ∧ far ≤ 7 ∧ i + far ≤ t.length ∧ Hid (wordFrom far (ws.drop q) rest = rword ws rest) ∧ Hid (∃ m, wr = w.drewN m)) (fun _ sq _ => ws.length - (intOf sq).toNat)
  case atStart => exact ⟨0, 0, rfl, rfl, Nat.zero_le _, by omega, by omega, rfl, 0, rfl⟩
  case round =>
    obtain ⟨far, q, rfl, rfl, hq, hfar, hfi, HF, HM⟩ := hrel
    have HQ : Hid (ReadAt wr B t i) := by obtain ⟨m, rfl⟩ := HM.out; exact HR.out.of_block rfl
    have HWr : Hid (WordsAt wr) := by obtain ⟨m, rfl⟩ := HM.out; exact HW.out.grown (grown_drawn _ _ none) (fun k e => by cases e)
    have c0 := HQ.out.c0
    have c1 := HQ.out.c1
    have f1 := HQ.out.frozen 1
    by_cases hlt : q < ws.length
    · have hqI : (q : Int) < (ws.length : Int) := by omega
      obtain ⟨id, hid⟩ : ∃ id, ws[q]? = some id := ⟨_, List.getElem?_eq_getElem hlt⟩
      have hid8 : id < 8 := H8.out id (List.mem_of_getElem? hid)
      have hcell : wr.cell? ⟨g, q, none⟩ = some (.int .i64 id) := by obtain ⟨m, rfl⟩ := HM.out; exact HL.out q id hid
      have hword : wr.cell? ⟨0, id, none⟩ = some (.string ⟨(wrd id).toArray⟩) := HWr.out.2.2 id hid8
      have hix : ∀ w : World, (Instr.indexAt 80 (.pointer (some ⟨0, 0, none⟩)) (.int .i64 id)).run Tryd.prog w = .ok (.pointer (some ⟨0, id, none⟩)) w := fun w => idx_words w id hid8
      obtain ⟨l1, l7⟩ := wrd_le id
      have HF1 : Hid (wordFrom far (id :: ws.drop (q + 1)) rest = rword ws rest) := by have := HF.out; rw [drop_at hid] at this; exact this
      have hal : alikeN rest (wrd id) ≤ (wrd id).length := alike_le_r _ _
      have hal2 : alikeN rest (wrd id) ≤ rest.length := alike_le_l _ _
      have hrl : rest.length + i = t.length := by have := congrArg List.length HRS.out; rw [List.length_drop] at this; omega
      have HHIT : Hid (alikeN rest (wrd id) = (wrd id).length → rword ws rest = Rd.ok id (wrd id).length) := fun q => by rw [← HF1.out, wordF_hit q]
      have HMISS : Hid (alikeN rest (wrd id) < (wrd id).length → wordFrom (max far (alikeN rest (wrd id))) (ws.drop (q + 1)) rest = rword ws rest) := fun q => by rw [← HF1.out, wordF_miss q]
      have HCA : Hid (∀ y, Calls Tryd.prog 64 #[.string ⟨rest.toArray⟩, .string ⟨(wrd id).toArray⟩] y fun e w' => e = .returned (.int .i64 (alikeN rest (wrd id) : Nat)) ∧ ∃ n, w' = y.drewN n) := fun y => alikeLen_any rest (wrd id) y hld (by omega)
      generalize alikeN rest (wrd id) = A at *
      obtain ⟨S, hS⟩ : ∃ S, wrd id = S := ⟨_, rfl⟩
      rw [hS] at hword l1 l7 hal HHIT HMISS HCA
      clear hS hid HF HF1
      go_wp2_with fail
      go_quiet (exact Calls.quiet_of (HCA.out _))
      clear hcell hsl
      by_cases hA : A < S.length
      · have hE : ((A : Int) == (S.length : Int)) = false := by simp; omega
        have hE' : (A == S.length) = false := by simp; omega
        by_cases hfA : far < A
        · have hfI : (far : Int) < (A : Int) := by omega
          have HF2 : Hid (wordFrom A (ws.drop (q + 1)) rest = rword ws rest) := by have := HMISS.out hA; rw [Nat.max_eq_right (by omega)] at this; exact this
          clear HHIT HMISS hA
          go_wp2
          go_roundw
          case rel => exact ⟨A, q + 1, rfl, by go_num, by omega, by omega, by omega, HF2.out, by obtain ⟨m, hm⟩ := HM.out; exact ⟨m + nq, by rw [hm, World.drewN_drewN]⟩⟩
          case measure => simp [intOf]; omega
        · have hfI : ¬ ((far : Int) < (A : Int)) := by omega
          have HF2 : Hid (wordFrom far (ws.drop (q + 1)) rest = rword ws rest) := by have := HMISS.out hA; rw [Nat.max_eq_left (by omega)] at this; exact this
          clear HHIT HMISS hA
          go_wp2
          go_roundw
          case rel => exact ⟨far, q + 1, rfl, by go_num, by omega, by omega, by omega, HF2.out, by obtain ⟨m, hm⟩ := HM.out; exact ⟨m + nq, by rw [hm, World.drewN_drewN]⟩⟩
          case measure => simp [intOf]; omega
      · have hE : ((A : Int) == (S.length : Int)) = true := by simp; omega
        have hE' : (A == S.length) = true := by simp; omega
        have HH : Hid (rword ws rest = Rd.ok id A) := by rw [show A = S.length by omega] at HHIT ⊢; exact HHIT.out rfl
        clear HHIT HMISS hA
        go_wp2
        go_ret
        exact ⟨Or.inl ⟨id, A, by rw [HRS.out]; exact HH.out, by omega, rfl, by rw [Int.natCast_add]; exact HQ.out.at_ _ _⟩, by obtain ⟨m, rfl⟩ := HM.out; exact grown_tr (grown_tr (grown_drawn _ _ _) (grown_drawn _ _ _)) (grown_set _ _ _ _)⟩
    · have hnl : decide ((q : Int) < (ws.length : Int)) = false := by simp; omega
      have hnl' : decide (q < ws.length) = false := by simp; omega
      have HB : Hid (rword ws rest = Rd.bad far) := by
        have := HF.out
        rw [List.drop_of_length_le (by omega)] at this
        exact this.symm
      clear hlt hsl
      go_wp2
      exact ⟨rfl, Or.inr ⟨far, by rw [HRS.out]; exact HB.out, by rw [Int.natCast_add]; rfl⟩, by obtain ⟨m, rfl⟩ := HM.out; exact grown_drawn _ _ _⟩

end Go.Proofs.YteodefmpkljedaaDoor
