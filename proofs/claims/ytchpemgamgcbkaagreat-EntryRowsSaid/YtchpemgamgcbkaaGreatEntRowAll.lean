/-
  Contracts of the document's SameAll, GreatAll and Texts. Conditions: those that each theorem names.
-/
import Derived.Test.YtchpemgamgcbkaaGreatEntRowMem
import Derived.Test.YtchpemgamgcbkaaGreatEntGreat
import Derived.Test.YtchpemgamgcbkaaGreatEntBytes
import Derived.Test.YtchpemgamgcbkaaGreatEntSameR
import Derived.Deep.QuietTactic
import Derived.BigQuiet
namespace Go.Proofs.YtchpemgamgcbkaaGreat
open Go.RowKit

theorem ex_at' {w : World} {B b off : Nat} {l : List EX} {k : Nat} {r : EX} (h : Seen w B (some ⟨b, off, none⟩) (ecells l)) (hk : l[k]? = some r) : w.rangeAt b (off + k * 18) (ecell r) := by
  obtain ⟨b', off', he, _, hr⟩ := ex_at h hk
  simp only [Option.some.injEq, Addr.mk.injEq, and_true] at he
  obtain ⟨rfl, rfl⟩ := he
  exact hr

set_option maxRecDepth 100000 in
set_option maxHeartbeats 1000000 in
theorem great_all_any (l : List EX) (A : Option Addr) (n c B : Nat) (w : World) (hl : EsIn w B l A n) (hB : B ≤ w.heap.size) (hm : n ≤ 9223372036854775807) :
    Calls Tryz.prog 20 #[.slice A n c] w fun e w' => ∃ b : Bool, e = .returned (.bool b) ∧ Below w.heap.size w w' ∧ (b = false → n ≤ 200) := by
  have HL := Lib.hid hl
  clear hl
  by_cases h200 : 200 < n
  · have t1 : decide ((200 : Int) < (n : Int)) = true := by simp; omega
    go_enter Tryz.func20, Tryz.ntmps20
    go_wp2
    go_ret
    exact ⟨true, rfl, Below.refl _ _, by simp⟩
  have t1 : decide ((200 : Int) < (n : Int)) = false := bool_dec _ (by omega)
  go_enter Tryz.func20, Tryz.ntmps20
  go_wp2_with fail
  go_loopw [3] (fun i wr => ∃ k : Nat, k ≤ n ∧ i = .int .i64 k ∧ Below w.heap.size w wr) (fun i _ => n - (intOf i).toNat)
  case atStart => exact ⟨0, by omega, rfl, Below.refl _ _⟩
  case round =>
    obtain ⟨k, hk, rfl, hb⟩ := hrel
    by_cases hlt : k < n
    · obtain ⟨r, hr⟩ := ex_here HL.out.len hlt
      obtain ⟨b, off, rfl, hbb, hcell⟩ := ex_at (HL.out.seen.below (hb.mono hB)) hr
      have hin := EIn.below (HL.out.each r (List.mem_of_getElem? hr)) (hb.mono hB)
      have hbw : b < wr.heap.size := by have := hb.size; omega
      have hB2 : B ≤ wr.heap.size := Nat.le_trans hB hb.size
      clear hr
      go_wp2_with (refine wpList_load_mid rfl _ _ rfl b (off + k * 18) rfl (ecell r) _ hcell Tryz.underlying32 rfl (by kernel_rfl) ?_)
      refine (show Calls _ _ #[.agg (ecell r).toArray] _ _ from egreat_any r.x r.A r.D r.n r.c r.m r.d _ wr hin hB2).mono ?_
      rintro e W3 ⟨g, rfl, hb3⟩
      have bw3 := hb.trans (hb3.mono hb.size)
      clear hb hb3 hin hcell
      cases g with
      | true =>
        go_wp2
        go_ret
        exact ⟨true, rfl, bw3, by simp⟩
      | false =>
        go_wp2
        go_roundw
        case rel => exact ⟨k + 1, by omega, by go_num, bw3⟩
        case measure => simp [intOf]; omega
    · go_wp2
      go_ret
      exact ⟨false, rfl, hb, fun _ => by omega⟩

set_option maxRecDepth 100000 in
set_option maxHeartbeats 1000000 in
theorem texts_same (l : List ByteArray) (A A' : Option Addr) (n c c' : Nat) (w : World) (hn : l.length = n) (hs : Seen w w.heap.size A (tcells l)) (hs' : Seen w w.heap.size A' (tcells l)) (hm : n ≤ 200) :
    Calls Tryz.prog 25 #[.slice A n c, .slice A' n c'] w fun e w' => e = .returned (.bool true) ∧ Below w.heap.size w w' := by
  have HN := Lib.hid hn
  clear hn
  go_enter Tryz.func25, Tryz.ntmps25
  go_wp2
  go_loopw [5] (fun i wr => ∃ k : Nat, k ≤ n ∧ i = .int .i64 (k : Int) ∧ ∃ q, wr = w.drewN q) (fun i _ => n - (intOf i).toNat)
  case atStart => exact ⟨0, Nat.zero_le _, rfl, 0, rfl⟩
  case round =>
    obtain ⟨k, hk, rfl, q, rfl⟩ := hrel
    by_cases hlt : k < n
    · obtain ⟨s, hr⟩ := tx_here HN.out hlt
      obtain ⟨b, off, rfl, hb, hc⟩ := tcells_at hs hr
      obtain ⟨b', off', rfl, hb', hc'⟩ := tcells_at hs' hr
      have hq : (s.toList == s.toList) = true := beq_self_eq_true _
      clear hr hs hs'
      go_wp2
      refine wp_region_quiet_lit (by kernel_rfl) (by kernel_rfl) ?_
      repeat (go_big_quiet_step (fail))
      refine wpQuiet_nil ?_
      intro _ hw'
      obtain ⟨nq, hw''⟩ := hw'
      subst hw''
      go_wp2
      go_roundw
      case rel => exact ⟨k + 1, by omega, by go_num, q + nq, rfl⟩
      case measure => simp [intOf]; omega
    · go_wp2
      go_ret
      exact ⟨rfl, (Below.refl _ _).drewN' q⟩

set_option maxRecDepth 100000 in
set_option maxHeartbeats 1000000 in
theorem same_alls (l1 l2 : List EX) (A1 A2 : Option Addr) (n c1 c2 B : Nat) (w : World) (h1 : EsIn w B l1 A1 n) (h2 : EsIn w B l2 A2 n) (hB : B ≤ w.heap.size) (h : l1.map (·.x) = l2.map (·.x)) (h200 : n ≤ 200) :
    Calls Tryz.prog 26 #[.slice A1 n c1, .slice A2 n c2] w fun e w' => e = .returned (.bool true) ∧ Below w.heap.size w w' := by
  have H1 := Lib.hid h1
  have H2 := Lib.hid h2
  have HH := Lib.hid h
  clear h1 h2 h
  go_enter Tryz.func26, Tryz.ntmps26
  go_wp2_with fail
  go_loopw [5] (fun i wr => ∃ k : Nat, k ≤ n ∧ i = .int .i64 k ∧ Below w.heap.size w wr) (fun i _ => n - (intOf i).toNat)
  case atStart => exact ⟨0, by omega, rfl, Below.refl _ _⟩
  case round =>
    obtain ⟨k, hk, rfl, hb⟩ := hrel
    by_cases hlt : k < n
    · obtain ⟨r1, hr1⟩ := ex_here H1.out.len hlt
      obtain ⟨r2, hr2⟩ := ex_here H2.out.len hlt
      obtain ⟨b1, o1, rfl, hb1, -⟩ := ex_at (H1.out.seen.below (hb.mono hB)) hr1
      obtain ⟨b2, o2, rfl, hb2, -⟩ := ex_at (H2.out.seen.below (hb.mono hB)) hr2
      have hxx : r1.x = r2.x := by
        have e := congrArg (fun l => l[k]?) HH.out
        simp only [List.getElem?_map, hr1, hr2, Option.map_some] at e
        injection e
      have HR1 := Lib.hid hr1
      have HR2 := Lib.hid hr2
      have HXX := Lib.hid hxx
      clear hr1 hr2 hxx
      go_wp2_with fail
      have h4 : Below w.heap.size w wr.drew := hb.drew
      clear hb
      refine wp_region_held_drew (S := fun w' => Below w.heap.size w w') (by kernel_rfl) h4 (fun hHeld => ?_)
      generalize wr.drew = W5 at h4 hHeld ⊢
      clear hHeld
      refine fld_takes [0, 1, 2, 3, 4, 5, 6, 7] _ 2 _ _ _ (by kernel_rfl) (fun _ d _ _ _ h => by cases d <;> exact h) (by rfl) (by kernel_rfl) (by assumption) ?_
      refine fld_taken (v := ?_) rfl (by rfl) (fun w' hw' => ?_) ?_
      rotate_left
      · (go_simp <;> with_reducible rfl)
      simp only [Act.put, List.getElem_toArray, List.getElem_cons_zero, List.setIfInBounds_toArray, List.set_cons_zero, List.set_cons_succ]
      refine fld_taken (v := ?_) rfl (by rfl) (fun w' hw' => ?_) ?_
      rotate_left
      · (go_simp <;> with_reducible rfl)
      simp only [Act.put, List.getElem_toArray, List.getElem_cons_succ, List.getElem_cons_zero, List.setIfInBounds_toArray, List.set_cons_zero, List.set_cons_succ]
      refine fld_taken (v := ?_) rfl (by rfl) (fun w' hw' => ?_) ?_
      rotate_left
      · (go_simp <;> with_reducible rfl)
      simp only [Act.put, List.getElem_toArray, List.getElem_cons_succ, List.getElem_cons_zero, List.setIfInBounds_toArray, List.set_cons_zero, List.set_cons_succ]
      refine fld_taken (v := ?_) rfl (by rfl) (fun w' hw' => ?_) ?_
      rotate_left
      · refine exec_load_mid (x := .tmp 19) (b := b1) (o := o1 + k * 18) (cs := ecell r1) ?_ ?_ (ex_at' (H1.out.seen.below (hw'.mono hB)) HR1.out) Tryz.underlying32 rfl (by kernel_rfl) <;> rfl
      simp only [Act.put, List.getElem_toArray, List.getElem_cons_succ, List.getElem_cons_zero, List.setIfInBounds_toArray, List.set_cons_zero, List.set_cons_succ]
      refine fld_taken (v := ?_) rfl (by rfl) (fun w' hw' => ?_) ?_
      rotate_left
      · (go_simp <;> with_reducible rfl)
      simp only [Act.put, List.getElem_toArray, List.getElem_cons_succ, List.getElem_cons_zero, List.setIfInBounds_toArray, List.set_cons_zero, List.set_cons_succ]
      refine fld_taken (v := ?_) rfl (by rfl) (fun w' hw' => ?_) ?_
      rotate_left
      · (go_simp <;> with_reducible rfl)
      simp only [Act.put, List.getElem_toArray, List.getElem_cons_succ, List.getElem_cons_zero, List.setIfInBounds_toArray, List.set_cons_zero, List.set_cons_succ]
      refine fld_taken (v := ?_) rfl (by rfl) (fun w' hw' => ?_) ?_
      rotate_left
      · (go_simp <;> with_reducible rfl)
      simp only [Act.put, List.getElem_toArray, List.getElem_cons_succ, List.getElem_cons_zero, List.setIfInBounds_toArray, List.set_cons_zero, List.set_cons_succ]
      refine fld_taken (v := ?_) rfl (by rfl) (fun w' hw' => ?_) ?_
      rotate_left
      · refine exec_load_mid (x := .tmp 23) (b := b2) (o := o2 + k * 18) (cs := ecell r2) ?_ ?_ (ex_at' (H2.out.seen.below (hw'.mono hB)) HR2.out) Tryz.underlying32 rfl (by kernel_rfl) <;> rfl
      simp only [Act.put, List.getElem_toArray, List.getElem_cons_succ, List.getElem_cons_zero, List.setIfInBounds_toArray, List.set_cons_zero, List.set_cons_succ]
      refine fld_taken_nil ?_
      refine fld_alone (i := 8) (by kernel_rfl) rfl (by rfl) (fun K hK => ?_)
      go_simp
      refine (show Calls _ _ #[.agg (ecell r1).toArray, .agg (ecell r2).toArray] _ _ from ref_esame_any r1.x r2.x r1.A r2.A r1.D r2.D r1.n r2.n r1.c r2.c r1.m r2.m r1.d r2.d _ true W5 (EIn.below (H1.out.each r1 (List.mem_of_getElem? HR1.out)) (h4.mono hB)) (EIn.below (H2.out.each r2 (List.mem_of_getElem? HR2.out)) (h4.mono hB)) (Nat.le_trans hB h4.size) ⟨fun _ => HXX.out, fun _ => rfl⟩).mono ?_
      rintro e W6 ⟨rfl, hb6⟩
      have h6 := h4.trans (hb6.mono h4.size)
      clear hb6
      go_wp2_with fail
      refine hK.out _ _ h6 ?_
      clear hK K h4
      refine fld_takes [9] _ 0 _ _ _ (by kernel_rfl) (fun _ d _ _ _ h => by cases d <;> exact h) (by rfl) (by kernel_rfl) (by assumption) ?_
      refine fld_taken (v := ?_) rfl (by rfl) (fun w' hw' => ?_) ?_
      rotate_left
      · (go_simp <;> with_reducible rfl)
      simp only [Act.put, List.getElem_toArray, List.getElem_cons_succ, List.getElem_cons_zero, List.setIfInBounds_toArray, List.set_cons_zero, List.set_cons_succ]
      refine fld_taken_nil ?_
      refine wpAnyH_done (by kernel_rfl) ?_ _
      go_wp2
      go_roundw
      case rel => exact ⟨k + 1, by omega, by go_num, h6⟩
      case measure => simp [intOf]; omega
    · go_wp2
      go_ret
      exact ⟨rfl, hb⟩
end Go.Proofs.YtchpemgamgcbkaaGreat
