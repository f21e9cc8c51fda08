/-
  The walk over FieldsWrite: it returns true and turns nothing that was there. Condition: what is said of the slice and the string that came in.
-/
import Derived.Test.YtkeekecaojpkjaaFldWakes
import Derived.Test.YtkeekecaojpkjaaFldHeads
namespace Go.Proofs.Ytkeekecaojpkjaa
open Go.RowKit

set_option maxRecDepth 100000 in
set_option maxHeartbeats 4000000 in
theorem write_in (A : Option Addr) (c : Nat) (bs : List UInt8) (lb : Nat) (n : Int) (s : ByteArray) (yes : Bool) (w : World) (hlb : lb = bs.length) (hs : Seen w w.heap.size A (cells bs)) (hx : lb + s.size ≤ 4000) (hc : lb ≤ c) :
    Calls Try.prog 3 #[.slice A lb c, .int .i64 n, .string s, .bool yes] w fun e w' => e = .returned (.bool true) ∧ Below w.heap.size w w' := by
  obtain ⟨xs, er, hp⟩ := putIs_of bs n
  obtain ⟨lx, hlx⟩ : ∃ lx, lx = xs.length := ⟨_, rfl⟩
  obtain ⟨us, fr, hu⟩ := textPut_of bs s
  obtain ⟨lu, hlu⟩ : ∃ lu, lu = us.length := ⟨_, rfl⟩
  obtain ⟨vs, hvs⟩ : ∃ vs, vs = bs ++ [flagByte yes] := ⟨_, rfl⟩
  obtain ⟨lv, hlv⟩ : ∃ lv, lv = lb + 1 := ⟨_, rfl⟩
  have hlvv : lv = vs.length := by rw [hvs, List.length_append, ← hlb]; exact hlv
  obtain ⟨l, hl⟩ := sizeIs_of s
  have HP := Lib.hid hp
  have HB := Lib.hid hlb
  have HX := Lib.hid hlx
  have HU := Lib.hid hu
  have HLU := Lib.hid hlu
  have HV := Lib.hid hvs
  have HLV := Lib.hid hlv
  have HVV := Lib.hid hlvv
  have HL := Lib.hid hl
  clear hp hlb hlx hu hlu hvs hlv hlvv hl
  go_enter Try.func3, Try.ntmps3
  go_wp2_with fail
  refine (num_put A c bs lb n xs er lx _ HP.out HB.out HX.out hs (by omega)).mono ?_
  rintro e w1 ⟨A1, c1, rfl, hs1, hc1, hb1⟩
  go_wp2_with fail
  refine (ref_num_put A c bs lb n xs er lx _ HP.out HB.out HX.out ((hs.below hb1).up hb1.size) (by omega)).mono ?_
  rintro e w2 ⟨A2, c2, rfl, hs2, hc2, hb2⟩
  have hbw2 := hb1.trans (hb2.mono hb1.size)
  go_wp2_with fail
  refine (text_put A c bs lb s us fr lu _ HU.out HB.out HLU.out ((hs.below hbw2).up hbw2.size) (by omega)).mono ?_
  rintro e w3 ⟨A3, c3, rfl, hs3, hc3, hb3⟩
  have hbw3 := hbw2.trans (hb3.mono hbw2.size)
  go_wp2_with fail
  refine (ref_text_put A c bs lb s us fr lu _ HU.out HB.out HLU.out ((hs.below hbw3).up hbw3.size) (by omega)).mono ?_
  rintro e w4 ⟨A4, c4, rfl, hs4, hc4, hb4⟩
  have hbw4 := hbw3.trans (hb4.mono hbw3.size)
  have hb34 := hb3.trans (hb4.mono hb3.size)
  have hb24 := hb2.trans (hb34.mono hb2.size)
  have k1 : ∀ w', Below w4.heap.size w4 w' → (convert 22 9 (.slice A1 lx c1)).run Try.prog w' = .ok (.string ⟨xs.toArray⟩) w' := fun w' h => str_after (P := Try.prog) ((hs1.below hb24).up hb24.size) 22 9 5 lx c1 HX.out Try.underlying22 Try.underlying5 Try.underlying9 ⟨w', h⟩
  have k2 : ∀ w', Below w4.heap.size w4 w' → (convert 22 9 (.slice A2 lx c2)).run Try.prog w' = .ok (.string ⟨xs.toArray⟩) w' := fun w' h => str_after (P := Try.prog) ((hs2.below hb34).up hb34.size) 22 9 5 lx c2 HX.out Try.underlying22 Try.underlying5 Try.underlying9 ⟨w', h⟩
  have k3 : ∀ w', Below w4.heap.size w4 w' → (convert 22 9 (.slice A3 lu c3)).run Try.prog w' = .ok (.string ⟨us.toArray⟩) w' := fun w' h => str_after (P := Try.prog) ((hs3.below hb4).up hb4.size) 22 9 5 lu c3 HLU.out Try.underlying22 Try.underlying5 Try.underlying9 ⟨w', h⟩
  have k4 : ∀ w', Below w4.heap.size w4 w' → (convert 22 9 (.slice A4 lu c4)).run Try.prog w' = .ok (.string ⟨us.toArray⟩) w' := fun w' h => str_after (P := Try.prog) hs4 22 9 5 lu c4 HLU.out Try.underlying22 Try.underlying5 Try.underlying9 ⟨w', h⟩
  have e1 : (er == er) = true := by simp
  have e2 : (fr == fr) = true := by simp
  have e3 : (xs == xs) = true := by simp
  have e4 : (us == us) = true := by simp
  have hsb := (hs.below hbw4).up hbw4.size
  have hb0 : Below w4.heap.size w4 w4.drew := (Below.refl _ _).drew
  clear hs1 hs2 hs3 hs4 hb1 hb2 hb3 hb4 hbw2 hbw3 hb34 hb24
  go_wp2_with fail
  refine wp_region_held_drew (S := fun w' => Below w4.heap.size w4 w') (by kernel_rfl) hb0 (fun hHeld => ?_)
  refine fld_takes [0, 1, 2, 3, 4, 5, 6, 7, 8, 9, 10, 11, 12, 13, 14, 15, 16, 17, 18, 19, 20, 21, 22, 23, 24, 27, 28] _ 17 _ _ _ (by kernel_rfl) (fun _ d _ _ _ h => by cases d <;> exact h) (by rfl) (by kernel_rfl) (by assumption) ?_
  refine fld_taken (v := ?_) rfl (by rfl) (fun w' hw' => ?_) ?_
  rotate_left
  · (go_simp <;> with_reducible rfl)
  simp only [Act.put, List.getElem_toArray, List.getElem_cons_zero, List.setIfInBounds_toArray, List.set_cons_zero, List.set_cons_succ]
  refine fld_taken (v := ?_) rfl (by rfl) (fun w' hw' => ?_) ?_
  rotate_left
  · (go_simp <;> with_reducible rfl)
  simp only [Act.put, List.getElem_toArray, List.getElem_cons_succ, List.getElem_cons_zero, List.setIfInBounds_toArray, List.set_cons_zero, List.set_cons_succ]
  refine fld_taken (v := ?_) rfl (by rfl) (fun w' hw' => ?_) ?_
  rotate_left
  · (go_simp <;> with_reducible rfl)
  simp only [Act.put, List.getElem_toArray, List.getElem_cons_succ, List.getElem_cons_zero, List.setIfInBounds_toArray, List.set_cons_zero, List.set_cons_succ]
  refine fld_taken (v := ?_) rfl (by rfl) (fun w' hw' => ?_) ?_
  rotate_left
  · (go_simp <;> with_reducible rfl)
  simp only [Act.put, List.getElem_toArray, List.getElem_cons_succ, List.getElem_cons_zero, List.setIfInBounds_toArray, List.set_cons_zero, List.set_cons_succ]
  refine fld_taken (v := ?_) rfl (by rfl) (fun w' hw' => ?_) ?_
  rotate_left
  · (go_simp <;> with_reducible rfl)
  simp only [Act.put, List.getElem_toArray, List.getElem_cons_succ, List.getElem_cons_zero, List.setIfInBounds_toArray, List.set_cons_zero, List.set_cons_succ]
  refine fld_taken (v := ?_) rfl (by rfl) (fun w' hw' => ?_) ?_
  rotate_left
  · (go_simp <;> with_reducible rfl)
  simp only [Act.put, List.getElem_toArray, List.getElem_cons_succ, List.getElem_cons_zero, List.setIfInBounds_toArray, List.set_cons_zero, List.set_cons_succ]
  refine fld_taken (v := ?_) rfl (by rfl) (fun w' hw' => ?_) ?_
  rotate_left
  · (go_simp <;> with_reducible rfl)
  simp only [Act.put, List.getElem_toArray, List.getElem_cons_succ, List.getElem_cons_zero, List.setIfInBounds_toArray, List.set_cons_zero, List.set_cons_succ]
  refine fld_taken (v := ?_) rfl (by rfl) (fun w' hw' => ?_) ?_
  rotate_left
  · (go_simp <;> with_reducible rfl)
  simp only [Act.put, List.getElem_toArray, List.getElem_cons_succ, List.getElem_cons_zero, List.setIfInBounds_toArray, List.set_cons_zero, List.set_cons_succ]
  refine fld_taken (v := ?_) rfl (by rfl) (fun w' hw' => ?_) ?_
  rotate_left
  · (go_simp <;> with_reducible rfl)
  simp only [Act.put, List.getElem_toArray, List.getElem_cons_succ, List.getElem_cons_zero, List.setIfInBounds_toArray, List.set_cons_zero, List.set_cons_succ]
  refine fld_taken (v := ?_) rfl (by rfl) (fun w' hw' => ?_) ?_
  rotate_left
  · (go_simp <;> with_reducible rfl)
  simp only [Act.put, List.getElem_toArray, List.getElem_cons_succ, List.getElem_cons_zero, List.setIfInBounds_toArray, List.set_cons_zero, List.set_cons_succ]
  refine fld_taken (v := ?_) rfl (by rfl) (fun w' hw' => ?_) ?_
  rotate_left
  · (go_simp <;> with_reducible rfl)
  simp only [Act.put, List.getElem_toArray, List.getElem_cons_succ, List.getElem_cons_zero, List.setIfInBounds_toArray, List.set_cons_zero, List.set_cons_succ]
  refine fld_taken (v := ?_) rfl (by rfl) (fun w' hw' => ?_) ?_
  rotate_left
  · (go_simp <;> with_reducible rfl)
  simp only [Act.put, List.getElem_toArray, List.getElem_cons_succ, List.getElem_cons_zero, List.setIfInBounds_toArray, List.set_cons_zero, List.set_cons_succ]
  refine fld_taken (v := ?_) rfl (by rfl) (fun w' hw' => ?_) ?_
  rotate_left
  · (go_simp <;> with_reducible rfl)
  simp only [Act.put, List.getElem_toArray, List.getElem_cons_succ, List.getElem_cons_zero, List.setIfInBounds_toArray, List.set_cons_zero, List.set_cons_succ]
  refine fld_taken (v := ?_) rfl (by rfl) (fun w' hw' => ?_) ?_
  rotate_left
  · (go_simp <;> with_reducible rfl)
  simp only [Act.put, List.getElem_toArray, List.getElem_cons_succ, List.getElem_cons_zero, List.setIfInBounds_toArray, List.set_cons_zero, List.set_cons_succ]
  refine fld_taken (v := ?_) rfl (by rfl) (fun w' hw' => ?_) ?_
  rotate_left
  · (go_simp <;> with_reducible rfl)
  simp only [Act.put, List.getElem_toArray, List.getElem_cons_succ, List.getElem_cons_zero, List.setIfInBounds_toArray, List.set_cons_zero, List.set_cons_succ]
  refine fld_taken (v := ?_) rfl (by rfl) (fun w' hw' => ?_) ?_
  rotate_left
  · (go_simp <;> with_reducible rfl)
  simp only [Act.put, List.getElem_toArray, List.getElem_cons_succ, List.getElem_cons_zero, List.setIfInBounds_toArray, List.set_cons_zero, List.set_cons_succ]
  refine fld_taken (v := ?_) rfl (by rfl) (fun w' hw' => ?_) ?_
  rotate_left
  · (go_simp <;> with_reducible rfl)
  simp only [Act.put, List.getElem_toArray, List.getElem_cons_succ, List.getElem_cons_zero, List.setIfInBounds_toArray, List.set_cons_zero, List.set_cons_succ]
  refine fld_taken (v := ?_) rfl (by rfl) (fun w' hw' => ?_) ?_
  rotate_left
  · (go_simp <;> with_reducible rfl)
  simp only [Act.put, List.getElem_toArray, List.getElem_cons_succ, List.getElem_cons_zero, List.setIfInBounds_toArray, List.set_cons_zero, List.set_cons_succ]
  refine fld_taken (v := ?_) rfl (by rfl) (fun w' hw' => ?_) ?_
  rotate_left
  · (go_simp <;> with_reducible rfl)
  simp only [Act.put, List.getElem_toArray, List.getElem_cons_succ, List.getElem_cons_zero, List.setIfInBounds_toArray, List.set_cons_zero, List.set_cons_succ]
  refine fld_taken (v := ?_) rfl (by rfl) (fun w' hw' => ?_) ?_
  rotate_left
  · (go_simp <;> with_reducible rfl)
  simp only [Act.put, List.getElem_toArray, List.getElem_cons_succ, List.getElem_cons_zero, List.setIfInBounds_toArray, List.set_cons_zero, List.set_cons_succ]
  refine fld_taken (v := ?_) rfl (by rfl) (fun w' hw' => ?_) ?_
  rotate_left
  · (go_simp <;> with_reducible rfl)
  simp only [Act.put, List.getElem_toArray, List.getElem_cons_succ, List.getElem_cons_zero, List.setIfInBounds_toArray, List.set_cons_zero, List.set_cons_succ]
  refine fld_taken (v := ?_) rfl (by rfl) (fun w' hw' => ?_) ?_
  rotate_left
  · (go_simp <;> with_reducible rfl)
  simp only [Act.put, List.getElem_toArray, List.getElem_cons_succ, List.getElem_cons_zero, List.setIfInBounds_toArray, List.set_cons_zero, List.set_cons_succ]
  refine fld_taken (v := ?_) rfl (by rfl) (fun w' hw' => ?_) ?_
  rotate_left
  · (go_simp <;> with_reducible rfl)
  simp only [Act.put, List.getElem_toArray, List.getElem_cons_succ, List.getElem_cons_zero, List.setIfInBounds_toArray, List.set_cons_zero, List.set_cons_succ]
  refine fld_taken (v := ?_) rfl (by rfl) (fun w' hw' => ?_) ?_
  rotate_left
  · (go_simp <;> with_reducible rfl)
  simp only [Act.put, List.getElem_toArray, List.getElem_cons_succ, List.getElem_cons_zero, List.setIfInBounds_toArray, List.set_cons_zero, List.set_cons_succ]
  refine fld_taken (v := ?_) rfl (by rfl) (fun w' hw' => ?_) ?_
  rotate_left
  · (go_simp <;> with_reducible rfl)
  simp only [Act.put, List.getElem_toArray, List.getElem_cons_succ, List.getElem_cons_zero, List.setIfInBounds_toArray, List.set_cons_zero, List.set_cons_succ]
  refine fld_taken (v := ?_) rfl (by rfl) (fun w' hw' => ?_) ?_
  rotate_left
  · (go_simp <;> with_reducible rfl)
  simp only [Act.put, List.getElem_toArray, List.getElem_cons_succ, List.getElem_cons_zero, List.setIfInBounds_toArray, List.set_cons_zero, List.set_cons_succ]
  refine fld_taken (v := ?_) rfl (by rfl) (fun w' hw' => ?_) ?_
  rotate_left
  · (go_simp <;> with_reducible rfl)
  simp only [Act.put, List.getElem_toArray, List.getElem_cons_succ, List.getElem_cons_zero, List.setIfInBounds_toArray, List.set_cons_zero, List.set_cons_succ]
  refine fld_taken_nil ?_
  refine fld_alone (i := 25) (by kernel_rfl) rfl (by rfl) (fun K hK => ?_)
  go_simp
  refine (flag_put A c bs lb yes vs lv _ HV.out HB.out HLV.out ?_ (by omega) hc).mono ?_
  · exact hsb.below hb0
  rintro e w5 ⟨A5, c5, rfl, hs5, hc5, hb5⟩
  have hb05 := hb0.trans hb5
  go_wp2_with fail
  refine hK.out _ _ (hb05) ?_
  clear hK K
  have k5 : ∀ w', Below w5.heap.size w5 w' → (convert 22 9 (.slice A5 lv c5)).run Try.prog w' = .ok (.string ⟨vs.toArray⟩) w' := fun w' h => str_after (P := Try.prog) hs5 22 9 5 lv c5 HVV.out Try.underlying22 Try.underlying5 Try.underlying9 ⟨w', h⟩
  refine fld_turn (S' := fun w' => Below w5.heap.size w5 w') (fun w' h => hb05.trans (h.mono hb05.size)) _ _ _ _ ?_
  have hHeldw5 : Below w5.heap.size w5 w5 := Below.refl _ _
  refine fld_takes [26] _ 15 _ _ _ (by kernel_rfl) (fun _ d _ _ _ h => by cases d <;> exact h) (by rfl) (by kernel_rfl) (by assumption) ?_
  refine fld_taken (v := ?_) rfl (by rfl) (fun w' hw' => ?_) ?_
  rotate_left
  · (go_simp <;> with_reducible rfl)
  simp only [Act.put, List.getElem_toArray, List.getElem_cons_succ, List.getElem_cons_zero, List.setIfInBounds_toArray, List.set_cons_zero, List.set_cons_succ]
  refine fld_taken_nil ?_
  refine fld_alone (i := 29) (by kernel_rfl) rfl (by rfl) (fun K hK => ?_)
  go_simp
  refine (ref_flag_put A c bs lb yes vs lv _ HV.out HB.out HLV.out ?_ (by omega)).mono ?_
  · exact (hsb.below hb05).up hb05.size
  rintro e w6 ⟨A6, c6, rfl, hs6, hc6, hb6⟩
  have hb06 := hb05.trans (hb6.mono hb05.size)
  go_wp2_with fail
  refine hK.out _ _ (hb6) ?_
  clear hK K
  have k6 : ∀ w', Below w6.heap.size w6 w' → (convert 22 9 (.slice A6 lv c6)).run Try.prog w' = .ok (.string ⟨vs.toArray⟩) w' := fun w' h => str_after (P := Try.prog) hs6 22 9 5 lv c6 HVV.out Try.underlying22 Try.underlying5 Try.underlying9 ⟨w', h⟩
  have e5 : (vs == vs) = true := by simp
  refine fld_turn (S' := fun w' => Below w6.heap.size w6 w') (fun w' h => hb6.trans (h.mono hb6.size)) _ _ _ _ ?_
  have hHeldw6 : Below w6.heap.size w6 w6 := Below.refl _ _
  refine fld_takes [30, 31, 32, 33, 34, 36] _ 8 _ _ _ (by kernel_rfl) (fun _ d _ _ _ h => by cases d <;> exact h) (by rfl) (by kernel_rfl) (by assumption) ?_
  refine fld_taken (v := ?_) rfl (by rfl) (fun w' hw' => ?_) ?_
  rotate_left
  · (go_simp <;> with_reducible rfl)
  simp only [Act.put, List.getElem_toArray, List.getElem_cons_succ, List.getElem_cons_zero, List.setIfInBounds_toArray, List.set_cons_zero, List.set_cons_succ]
  refine fld_taken (v := ?_) rfl (by rfl) (fun w' hw' => ?_) ?_
  rotate_left
  · (go_simp <;> with_reducible rfl)
  simp only [Act.put, List.getElem_toArray, List.getElem_cons_succ, List.getElem_cons_zero, List.setIfInBounds_toArray, List.set_cons_zero, List.set_cons_succ]
  refine fld_taken (v := ?_) rfl (by rfl) (fun w' hw' => ?_) ?_
  rotate_left
  · (go_simp <;> with_reducible rfl)
  simp only [Act.put, List.getElem_toArray, List.getElem_cons_succ, List.getElem_cons_zero, List.setIfInBounds_toArray, List.set_cons_zero, List.set_cons_succ]
  refine fld_taken (v := ?_) rfl (by rfl) (fun w' hw' => ?_) ?_
  rotate_left
  · (go_simp <;> with_reducible rfl)
  simp only [Act.put, List.getElem_toArray, List.getElem_cons_succ, List.getElem_cons_zero, List.setIfInBounds_toArray, List.set_cons_zero, List.set_cons_succ]
  refine fld_taken (v := ?_) rfl (by rfl) (fun w' hw' => ?_) ?_
  rotate_left
  · (go_simp <;> with_reducible rfl)
  simp only [Act.put, List.getElem_toArray, List.getElem_cons_succ, List.getElem_cons_zero, List.setIfInBounds_toArray, List.set_cons_zero, List.set_cons_succ]
  refine fld_taken (v := ?_) rfl (by rfl) (fun w' hw' => ?_) ?_
  rotate_left
  · (go_simp <;> with_reducible rfl)
  simp only [Act.put, List.getElem_toArray, List.getElem_cons_succ, List.getElem_cons_zero, List.setIfInBounds_toArray, List.set_cons_zero, List.set_cons_succ]
  refine fld_taken_nil ?_
  refine fld_alone (i := 35) (by kernel_rfl) rfl (by rfl) (fun K hK => ?_)
  go_simp
  refine (size_all s l _ HL.out (by omega)).mono ?_
  rintro e w7 ⟨rfl, rfl⟩
  go_wp2_with fail
  refine hK.out _ _ (Below.refl _ _) ?_
  clear hK K
  refine fld_alone (i := 37) (by kernel_rfl) rfl (by rfl) (fun K hK => ?_)
  go_simp
  refine (ref_size_all s l _ HL.out (by omega)).mono ?_
  rintro e w7 ⟨rfl, hb7⟩
  go_wp2_with fail
  refine hK.out _ _ (hb7) ?_
  clear hK K
  have e6 : ((l : Int) == (l : Int)) = true := by simp
  refine fld_turn (S' := fun w' => Below w7.heap.size w7 w') (fun w' h => hb7.trans (h.mono hb7.size)) _ _ _ _ ?_
  have hHeldw7 : Below w7.heap.size w7 w7 := Below.refl _ _
  refine fld_takes [38, 39, 40] _ 3 _ _ _ (by kernel_rfl) (fun _ d _ _ _ h => by cases d <;> exact h) (by rfl) (by kernel_rfl) (by assumption) ?_
  refine fld_taken (v := ?_) rfl (by rfl) (fun w' hw' => ?_) ?_
  rotate_left
  · (go_simp <;> with_reducible rfl)
  simp only [Act.put, List.getElem_toArray, List.getElem_cons_succ, List.getElem_cons_zero, List.setIfInBounds_toArray, List.set_cons_zero, List.set_cons_succ]
  refine fld_taken (v := ?_) rfl (by rfl) (fun w' hw' => ?_) ?_
  rotate_left
  · (go_simp <;> with_reducible rfl)
  simp only [Act.put, List.getElem_toArray, List.getElem_cons_succ, List.getElem_cons_zero, List.setIfInBounds_toArray, List.set_cons_zero, List.set_cons_succ]
  refine fld_taken (v := ?_) rfl (by rfl) (fun w' hw' => ?_) ?_
  rotate_left
  · (go_simp <;> with_reducible rfl)
  simp only [Act.put, List.getElem_toArray, List.getElem_cons_succ, List.getElem_cons_zero, List.setIfInBounds_toArray, List.set_cons_zero, List.set_cons_succ]
  refine fld_taken_nil ?_
  refine fld_alone (i := 41) (by kernel_rfl) rfl (by rfl) (fun K hK => ?_)
  go_simp
  refine (wakes_any _).mono ?_
  rintro e w8 ⟨rfl, hb8⟩
  go_wp2_with fail
  refine hK.out _ _ (hb8) ?_
  clear hK K
  refine fld_turn (S' := fun w' => Below w8.heap.size w8 w') (fun w' h => hb8.trans (h.mono hb8.size)) _ _ _ _ ?_
  have hHeldw8 : Below w8.heap.size w8 w8 := Below.refl _ _
  refine fld_takes [42, 43] _ 0 _ _ _ (by kernel_rfl) (fun _ d _ _ _ h => by cases d <;> exact h) (by rfl) (by kernel_rfl) (by assumption) ?_
  refine fld_taken (v := ?_) rfl (by rfl) (fun w' hw' => ?_) ?_
  rotate_left
  · (go_simp <;> with_reducible rfl)
  simp only [Act.put, List.getElem_toArray, List.getElem_cons_succ, List.getElem_cons_zero, List.setIfInBounds_toArray, List.set_cons_zero, List.set_cons_succ]
  refine fld_taken (v := ?_) rfl (by rfl) (fun w' hw' => ?_) ?_
  rotate_left
  · (go_simp <;> with_reducible rfl)
  simp only [Act.put, List.getElem_toArray, List.getElem_cons_succ, List.getElem_cons_zero, List.setIfInBounds_toArray, List.set_cons_zero, List.set_cons_succ]
  refine fld_taken_nil ?_
  refine wpAnyH_done (by kernel_rfl) ?_ _
  have hb07 := hb06.trans (hb7.mono hb06.size)
  have hb08 := hb07.trans (hb8.mono hb07.size)
  have hfin := hbw4.trans (hb08.mono hbw4.size)
  clear k1 k2 k3 k4 k5 k6 hb05 hb06 hb07 hb08
  go_wp2
  go_ret
  exact ⟨rfl, hfin⟩

end Go.Proofs.Ytkeekecaojpkjaa
