/-
  The walk over RequestWrites: it returns true and turns nothing that was there. Conditions: what is said of the arguments.
-/
import Derived.Test.YtfcifblbapadpaaReqBytesR
import Derived.Test.YtfcifblbapadpaaRecGreat
import Derived.Test.YtfcifblbapadpaaFldHeads
namespace Go.Proofs.Ytfcifblbapadpaa
open Go.RowKit

theorem exec_load_p {P : Program} {w : World} {g T ty : Nat} {cs : Array Value} {ρ : Operand → Value} {o : Oper} {x : Operand} {d : TypeDesc} (ho : o.op = .load ty x) (hx : ρ x = .pointer (some ⟨g, 0, none⟩)) (hv : Var w g T cs) (hu : P.underlying ty = some d)
    (hd : (match d with | .struct _ | .array _ _ => true | _ => false) = true) (hi : (P.info? ty).map (·.size) = some cs.size) : (execOp ρ o).run P w = .ok (.value (.agg cs)) w := by
  unfold execOp
  simp only [ho, hx, Instr.loadAt, Instr.sureAddr, Sem.run_bind, Sem.run_pure, Result.andThen_ok, run_loadVar_row w g T ty cs (0, 0) d hv hu hd hi]

set_option maxRecDepth 100000 in
set_option maxHeartbeats 4000000 in
theorem writes_walk (x y : Rq) (A1 A2 : Option Addr) (n1 c1 n2 c2 : Nat) (w : World) (hx : QIn w w.heap.size x A1 n1 c1) (hy : QIn w w.heap.size y A2 n2 c2) (hr : -128 ≤ x.kind ∧ x.kind ≤ 127) :
    Calls Try.prog 3 #[.agg (qvals x A1 n1 c1), .agg (qvals y A2 n2 c2)] w fun e w' => e = .returned (.bool true) ∧ Below w.heap.size w w' := by
  obtain ⟨W0, hW0⟩ : ∃ W0, W0 = (w.alloc (.cells (qvals x A1 n1 c1) 27)).alloc (.cells (qvals y A2 n2 c2) 27) := ⟨_, rfl⟩
  obtain ⟨v0, u0, b0⟩ := two_new w (qvals x A1 n1 c1) (qvals y A2 n2 c2) 27
  rw [← hW0] at v0 u0 b0
  have HX := Lib.hid (hx.below b0)
  have HY := Lib.hid (hy.below b0)
  simp only [qvals] at hW0 ⊢
  have HW0 := Lib.hid hW0
  have c10 := v0.cell 10 rfl
  have c11 := v0.cell 11 rfl
  have c12 := v0.cell 12 rfl
  have c13 := v0.cell 13 rfl
  have c14 := v0.cell 14 rfl
  have z0 := v0.lt
  clear hW0 hx hy
  go_enter Try.func3, Try.ntmps3
  go_upto_region 1 with fail
  rw [← HW0.out]
  go_wp2_with fail
  refine (great_any A1 n1 c1 w.heap.size x.b.rs x.b.pid x.b.ep x.b.sq x.b.tx W0 HX.out.len HX.out.seen b0.size HX.out.max HX.out.sizes).mono ?_
  rintro e W1 ⟨g1, rfl, -, hb1⟩
  have v1 := v0.below hb1 v0.lt
  have u1 := u0.below hb1 u0.lt
  have b1 := b0.trans (hb1.mono b0.size)
  have x1 := HX.out.below (hb1.mono b0.size)
  have y1 := HY.out.below (hb1.mono b0.size)
  clear v0 u0 hb1 c10 c11 c12 c13 c14 z0 b0 HX HY HW0
  cases g1 with
  | true =>
    clear v1 u1 x1 y1
    go_wp2_with fail
    refine (qwakes_any _).mono ?_
    rintro e w9 ⟨rfl, hb⟩
    have b9 := b1.trans (hb.mono b1.size)
    go_wp2
    go_ret
    exact ⟨rfl, b9⟩
  | false =>
    have c10 := u1.cell 10 rfl
    have c11 := u1.cell 11 rfl
    have c12 := u1.cell 12 rfl
    have c13 := u1.cell 13 rfl
    have c14 := u1.cell 14 rfl
    have z1 := u1.lt
    go_wp2_with fail
    refine (great_any A2 n2 c2 w.heap.size y.b.rs y.b.pid y.b.ep y.b.sq y.b.tx W1 y1.len y1.seen b1.size y1.max y1.sizes).mono ?_
    rintro e W2 ⟨g2, rfl, -, hb2⟩
    have v2 := v1.below hb2 v1.lt
    have u2 := u1.below hb2 u1.lt
    have b2 := b1.trans (hb2.mono b1.size)
    have x2 := x1.below (hb2.mono b1.size)
    have y2 := y1.below (hb2.mono b1.size)
    clear v1 u1 hb2 c10 c11 c12 c13 c14 z1 b1 x1 y1
    cases g2 with
    | true =>
      clear v2 u2 x2 y2
      go_wp2_with fail
      refine (qwakes_any _).mono ?_
      rintro e w9 ⟨rfl, hb⟩
      have b9 := b2.trans (hb.mono b2.size)
      go_wp2
      go_ret
      exact ⟨rfl, b9⟩
    | false =>
      obtain ⟨ys, er, hys⟩ := yIs_of x
      have HYS := Lib.hid hys
      clear hys
      go_wp2_with (refine wpList_load_var rfl _ rfl Try.underlying27 rfl rfl v2 (by simp only [qvals]; kernel_rfl) ?_)
      refine (qbytes_any x A1 n1 c1 w.heap.size ys er W2 x2 b2.size hr HYS.out).mono ?_
      rintro e W3 ⟨hb3, A3, c3, l3, rfl, hl3, hs3, -⟩
      have v3 := v2.below hb3 v2.lt
      have u3 := u2.below hb3 u2.lt
      have b3 := b2.trans (hb3.mono b2.size)
      have x3 := x2.below (hb3.mono b2.size)
      have y3 := y2.below (hb3.mono b2.size)
      have HL3 := Lib.hid hl3
      clear v2 u2 hb3 b2 x2 y2 hl3
      go_wp2_with (refine wpList_load_var rfl _ rfl Try.underlying27 rfl rfl v3 (by simp only [qvals]; kernel_rfl) ?_)
      refine (ref_qbytes_any x A1 n1 c1 w.heap.size ys er W3 x3 b3.size HYS.out).mono ?_
      rintro e W4 ⟨hb4, A4, c4, l4, rfl, hl4, hs4, -⟩
      have v4 := v3.below hb4 v3.lt
      have u4 := u3.below hb4 u3.lt
      have b4 := b3.trans (hb4.mono b3.size)
      have x4 := x3.below (hb4.mono b3.size)
      have y4 := y3.below (hb4.mono b3.size)
      have hs34 := (hs3.below hb4).up hb4.size
      have HL4 := Lib.hid hl4
      clear v3 u3 hb4 b3 x3 y3 hs3 hl4
      obtain ⟨T, hT⟩ : ∃ T : ByteArray, T = ⟨ys.toArray⟩ := ⟨_, rfl⟩
      have HT := Lib.hid hT
      obtain ⟨q, hq⟩ := iff_of' x.Good
      obtain ⟨m, hm⟩ := iff_of' (x = y)
      obtain ⟨ch, hch⟩ := iff_of' (¬ Asks x.kind)
      have HQ := Lib.hid hq
      have HM := Lib.hid hm
      have HCH := Lib.hid hch
      clear hq hm hch hT
      have q1 : (T.toList == T.toList) = true := by simp
      have q2 : (er == er) = true := beq_self_eq_true _
      have q3 : (q == q) = true := beq_self_eq_true _
      have q4 : (m == m) = true := beq_self_eq_true _
      have q5 : (ch == ch) = true := beq_self_eq_true _
      go_upto_region 5 with fail
      have h0 : Below W4.heap.size W4 W4.drew := (Below.refl _ _).drew
      refine wp_region_held_drew (S := fun w' => Below W4.heap.size W4 w') (by kernel_rfl) h0 (fun hHeld => ?_)
      generalize W4.drew = V0 at h0 hHeld ⊢
      clear hHeld
      refine fld_takes [0, 2] _ 37 _ _ _ (by kernel_rfl) (fun _ d _ _ _ h => by cases d <;> exact h) (by rfl) (by kernel_rfl) (by assumption) ?_
      refine fld_taken (v := ?_) rfl (by rfl) (fun w' hw' => ?_) ?_
      rotate_left
      · refine exec_load_p (x := .tmp 2) ?_ ?_ (v4.below hw' v4.lt) Try.underlying27 rfl (by simp only [qvals]; kernel_rfl) <;> rfl
      simp only [Act.put, List.getElem_toArray, List.getElem_cons_zero, List.setIfInBounds_toArray, List.set_cons_zero, List.set_cons_succ]
      refine fld_taken (v := ?_) rfl (by rfl) (fun w' hw' => ?_) ?_
      rotate_left
      · refine exec_load_p (x := .tmp 2) ?_ ?_ (v4.below hw' v4.lt) Try.underlying27 rfl (by simp only [qvals]; kernel_rfl) <;> rfl
      simp only [Act.put, List.getElem_toArray, List.getElem_cons_succ, List.getElem_cons_zero, List.setIfInBounds_toArray, List.set_cons_zero, List.set_cons_succ]
      refine fld_taken_nil ?_
      refine fld_alone (i := 1) (by kernel_rfl) rfl (by rfl) (fun K hK => ?_)
      go_simp
      refine (qmay_any x A1 n1 c1 W4.heap.size q V0 (((x4.up b4.size)).below h0) h0.size hr HQ.out).mono ?_
      rintro e V1 ⟨rfl, hb⟩
      have h1 := h0.trans (hb.mono h0.size)
      clear hb
      go_wp2_with fail
      refine hK.out _ _ h1 ?_
      clear hK K
      refine fld_alone (i := 3) (by kernel_rfl) rfl (by rfl) (fun K hK => ?_)
      go_simp
      refine (ref_qmay_any x A1 n1 c1 W4.heap.size q V1 (((x4.up b4.size)).below h1) h1.size HQ.out).mono ?_
      rintro e V2 ⟨rfl, hb⟩
      have h2 := h1.trans (hb.mono h1.size)
      clear hb
      go_wp2_with fail
      refine hK.out _ _ h2 ?_
      clear hK K
      refine fld_takes [4, 5, 6, 7, 8, 9, 10, 11, 12, 13, 14, 15, 16, 17, 18, 19, 21, 22] _ 17 _ _ _ (by kernel_rfl) (fun _ d _ _ _ h => by cases d <;> exact h) (by rfl) (by kernel_rfl) (by assumption) ?_
      refine fld_taken (v := ?_) rfl (by rfl) (fun w' hw' => ?_) ?_
      rotate_left
      · (go_simp <;> with_reducible rfl)
      simp only [Act.put, List.getElem_toArray, List.getElem_cons_succ, List.getElem_cons_zero, List.setIfInBounds_toArray, List.set_cons_zero, List.set_cons_succ]
      refine fld_taken (v := ?_) rfl (by rfl) (fun w' hw' => ?_) ?_
      rotate_left
      · (go_simp <;> with_reducible rfl)
      simp only [Act.put, List.getElem_toArray, List.getElem_cons_succ, List.getElem_cons_zero, List.setIfInBounds_toArray, List.set_cons_zero, List.set_cons_succ]
      refine fld_taken (v := ?_) rfl (by rfl) (fun w' hw' => ?_) ?_
      rotate_left
      · (go_simp <;> with_reducible rfl)
      simp only [Act.put, List.getElem_toArray, List.getElem_cons_succ, List.getElem_cons_zero, List.setIfInBounds_toArray, List.set_cons_zero, List.set_cons_succ]
      refine fld_taken (v := ?_) rfl (by rfl) (fun w' hw' => ?_) ?_
      rotate_left
      · have st := str_now (hs34.below hw') 30 9 5 l3 c3 HL3.out Try.underlying30 Try.underlying5 Try.underlying9; rw [← HT.out] at st; (go_simp <;> with_reducible rfl)
      simp only [Act.put, List.getElem_toArray, List.getElem_cons_succ, List.getElem_cons_zero, List.setIfInBounds_toArray, List.set_cons_zero, List.set_cons_succ]
      refine fld_taken (v := ?_) rfl (by rfl) (fun w' hw' => ?_) ?_
      rotate_left
      · (go_simp <;> with_reducible rfl)
      simp only [Act.put, List.getElem_toArray, List.getElem_cons_succ, List.getElem_cons_zero, List.setIfInBounds_toArray, List.set_cons_zero, List.set_cons_succ]
      refine fld_taken (v := ?_) rfl (by rfl) (fun w' hw' => ?_) ?_
      rotate_left
      · have st := str_now (hs4.below hw') 30 9 5 l4 c4 HL4.out Try.underlying30 Try.underlying5 Try.underlying9; rw [← HT.out] at st; (go_simp <;> with_reducible rfl)
      simp only [Act.put, List.getElem_toArray, List.getElem_cons_succ, List.getElem_cons_zero, List.setIfInBounds_toArray, List.set_cons_zero, List.set_cons_succ]
      refine fld_taken (v := ?_) rfl (by rfl) (fun w' hw' => ?_) ?_
      rotate_left
      · (go_simp <;> with_reducible rfl)
      simp only [Act.put, List.getElem_toArray, List.getElem_cons_succ, List.getElem_cons_zero, List.setIfInBounds_toArray, List.set_cons_zero, List.set_cons_succ]
      refine fld_taken (v := ?_) rfl (by rfl) (fun w' hw' => ?_) ?_
      rotate_left
      · (go_simp <;> with_reducible rfl)
      simp only [Act.put, List.getElem_toArray, List.getElem_cons_succ, List.getElem_cons_zero, List.setIfInBounds_toArray, List.set_cons_zero, List.set_cons_succ]
      refine fld_taken (v := ?_) rfl (by rfl) (fun w' hw' => ?_) ?_
      rotate_left
      · (go_simp <;> with_reducible rfl)
      simp only [Act.put, List.getElem_toArray, List.getElem_cons_succ, List.getElem_cons_zero, List.setIfInBounds_toArray, List.set_cons_zero, List.set_cons_succ]
      refine fld_taken (v := ?_) rfl (by rfl) (fun w' hw' => ?_) ?_
      rotate_left
      · (go_simp <;> with_reducible rfl)
      simp only [Act.put, List.getElem_toArray, List.getElem_cons_succ, List.getElem_cons_zero, List.setIfInBounds_toArray, List.set_cons_zero, List.set_cons_succ]
      refine fld_taken (v := ?_) rfl (by rfl) (fun w' hw' => ?_) ?_
      rotate_left
      · (go_simp <;> with_reducible rfl)
      simp only [Act.put, List.getElem_toArray, List.getElem_cons_succ, List.getElem_cons_zero, List.setIfInBounds_toArray, List.set_cons_zero, List.set_cons_succ]
      refine fld_taken (v := ?_) rfl (by rfl) (fun w' hw' => ?_) ?_
      rotate_left
      · (go_simp <;> with_reducible rfl)
      simp only [Act.put, List.getElem_toArray, List.getElem_cons_succ, List.getElem_cons_zero, List.setIfInBounds_toArray, List.set_cons_zero, List.set_cons_succ]
      refine fld_taken (v := ?_) rfl (by rfl) (fun w' hw' => ?_) ?_
      rotate_left
      · (go_simp <;> with_reducible rfl)
      simp only [Act.put, List.getElem_toArray, List.getElem_cons_succ, List.getElem_cons_zero, List.setIfInBounds_toArray, List.set_cons_zero, List.set_cons_succ]
      refine fld_taken (v := ?_) rfl (by rfl) (fun w' hw' => ?_) ?_
      rotate_left
      · (go_simp <;> with_reducible rfl)
      simp only [Act.put, List.getElem_toArray, List.getElem_cons_succ, List.getElem_cons_zero, List.setIfInBounds_toArray, List.set_cons_zero, List.set_cons_succ]
      refine fld_taken (v := ?_) rfl (by rfl) (fun w' hw' => ?_) ?_
      rotate_left
      · refine exec_load_p (x := .tmp 2) ?_ ?_ (v4.below hw' v4.lt) Try.underlying27 rfl (by simp only [qvals]; kernel_rfl) <;> rfl
      simp only [Act.put, List.getElem_toArray, List.getElem_cons_succ, List.getElem_cons_zero, List.setIfInBounds_toArray, List.set_cons_zero, List.set_cons_succ]
      refine fld_taken (v := ?_) rfl (by rfl) (fun w' hw' => ?_) ?_
      rotate_left
      · refine exec_load_p (x := .tmp 3) ?_ ?_ (u4.below hw' u4.lt) Try.underlying27 rfl (by simp only [qvals]; kernel_rfl) <;> rfl
      simp only [Act.put, List.getElem_toArray, List.getElem_cons_succ, List.getElem_cons_zero, List.setIfInBounds_toArray, List.set_cons_zero, List.set_cons_succ]
      refine fld_taken (v := ?_) rfl (by rfl) (fun w' hw' => ?_) ?_
      rotate_left
      · refine exec_load_p (x := .tmp 2) ?_ ?_ (v4.below hw' v4.lt) Try.underlying27 rfl (by simp only [qvals]; kernel_rfl) <;> rfl
      simp only [Act.put, List.getElem_toArray, List.getElem_cons_succ, List.getElem_cons_zero, List.setIfInBounds_toArray, List.set_cons_zero, List.set_cons_succ]
      refine fld_taken (v := ?_) rfl (by rfl) (fun w' hw' => ?_) ?_
      rotate_left
      · refine exec_load_p (x := .tmp 3) ?_ ?_ (u4.below hw' u4.lt) Try.underlying27 rfl (by simp only [qvals]; kernel_rfl) <;> rfl
      simp only [Act.put, List.getElem_toArray, List.getElem_cons_succ, List.getElem_cons_zero, List.setIfInBounds_toArray, List.set_cons_zero, List.set_cons_succ]
      refine fld_taken_nil ?_
      refine fld_alone (i := 20) (by kernel_rfl) rfl (by rfl) (fun K hK => ?_)
      go_simp
      refine (qsame_any x y A1 A2 n1 n2 c1 c2 W4.heap.size m V2 (((x4.up b4.size)).below h2) (((y4.up b4.size)).below h2) h2.size HM.out).mono ?_
      rintro e V3 ⟨rfl, hb⟩
      have h3 := h2.trans (hb.mono h2.size)
      clear hb
      go_wp2_with fail
      refine hK.out _ _ h3 ?_
      clear hK K
      refine fld_alone (i := 23) (by kernel_rfl) rfl (by rfl) (fun K hK => ?_)
      go_simp
      refine (ref_qsame_any x y A1 A2 n1 n2 c1 c2 W4.heap.size m V3 (((x4.up b4.size)).below h3) (((y4.up b4.size)).below h3) h3.size HM.out).mono ?_
      rintro e V4 ⟨rfl, hb⟩
      have h4 := h3.trans (hb.mono h3.size)
      clear hb
      go_wp2_with fail
      refine hK.out _ _ h4 ?_
      clear hK K
      refine fld_takes [24, 25, 26, 27, 28, 30, 31] _ 8 _ _ _ (by kernel_rfl) (fun _ d _ _ _ h => by cases d <;> exact h) (by rfl) (by kernel_rfl) (by assumption) ?_
      refine fld_taken (v := ?_) rfl (by rfl) (fun w' hw' => ?_) ?_
      rotate_left
      · (go_simp <;> with_reducible rfl)
      simp only [Act.put, List.getElem_toArray, List.getElem_cons_succ, List.getElem_cons_zero, List.setIfInBounds_toArray, List.set_cons_zero, List.set_cons_succ]
      refine fld_taken (v := ?_) rfl (by rfl) (fun w' hw' => ?_) ?_
      rotate_left
      · (go_simp <;> with_reducible rfl)
      simp only [Act.put, List.getElem_toArray, List.getElem_cons_succ, List.getElem_cons_zero, List.setIfInBounds_toArray, List.set_cons_zero, List.set_cons_succ]
      refine fld_taken (v := ?_) rfl (by rfl) (fun w' hw' => ?_) ?_
      rotate_left
      · (go_simp <;> with_reducible rfl)
      simp only [Act.put, List.getElem_toArray, List.getElem_cons_succ, List.getElem_cons_zero, List.setIfInBounds_toArray, List.set_cons_zero, List.set_cons_succ]
      refine fld_taken (v := ?_) rfl (by rfl) (fun w' hw' => ?_) ?_
      rotate_left
      · (go_simp <;> with_reducible rfl)
      simp only [Act.put, List.getElem_toArray, List.getElem_cons_succ, List.getElem_cons_zero, List.setIfInBounds_toArray, List.set_cons_zero, List.set_cons_succ]
      refine fld_taken (v := ?_) rfl (by rfl) (fun w' hw' => ?_) ?_
      rotate_left
      · have c0 := (v4.below hw' v4.lt).cell 0 rfl; (go_simp <;> with_reducible rfl)
      simp only [Act.put, List.getElem_toArray, List.getElem_cons_succ, List.getElem_cons_zero, List.setIfInBounds_toArray, List.set_cons_zero, List.set_cons_succ]
      refine fld_taken (v := ?_) rfl (by rfl) (fun w' hw' => ?_) ?_
      rotate_left
      · (go_simp <;> with_reducible rfl)
      simp only [Act.put, List.getElem_toArray, List.getElem_cons_succ, List.getElem_cons_zero, List.setIfInBounds_toArray, List.set_cons_zero, List.set_cons_succ]
      refine fld_taken (v := ?_) rfl (by rfl) (fun w' hw' => ?_) ?_
      rotate_left
      · have c0 := (v4.below hw' v4.lt).cell 0 rfl; (go_simp <;> with_reducible rfl)
      simp only [Act.put, List.getElem_toArray, List.getElem_cons_succ, List.getElem_cons_zero, List.setIfInBounds_toArray, List.set_cons_zero, List.set_cons_succ]
      refine fld_taken_nil ?_
      refine fld_alone (i := 29) (by kernel_rfl) rfl (by rfl) (fun K hK => ?_)
      go_simp
      refine (changes_any x.kind ch V4 HCH.out).mono ?_
      rintro e V5 ⟨rfl, rfl⟩
      go_wp2_with fail
      refine hK.out _ _ h4 ?_
      clear hK K
      refine fld_alone (i := 32) (by kernel_rfl) rfl (by rfl) (fun K hK => ?_)
      go_simp
      refine (ref_changes_any x.kind ch V4 HCH.out).mono ?_
      rintro e V6 ⟨rfl, rfl⟩
      go_wp2_with fail
      refine hK.out _ _ h4 ?_
      clear hK K
      refine fld_takes [33, 34, 35] _ 3 _ _ _ (by kernel_rfl) (fun _ d _ _ _ h => by cases d <;> exact h) (by rfl) (by kernel_rfl) (by assumption) ?_
      refine fld_taken (v := ?_) rfl (by rfl) (fun w' hw' => ?_) ?_
      rotate_left
      · (go_simp <;> with_reducible rfl)
      simp only [Act.put, List.getElem_toArray, List.getElem_cons_succ, List.getElem_cons_zero, List.setIfInBounds_toArray, List.set_cons_zero, List.set_cons_succ]
      refine fld_taken (v := ?_) rfl (by rfl) (fun w' hw' => ?_) ?_
      rotate_left
      · (go_simp <;> with_reducible rfl)
      simp only [Act.put, List.getElem_toArray, List.getElem_cons_succ, List.getElem_cons_zero, List.setIfInBounds_toArray, List.set_cons_zero, List.set_cons_succ]
      refine fld_taken (v := ?_) rfl (by rfl) (fun w' hw' => ?_) ?_
      rotate_left
      · (go_simp <;> with_reducible rfl)
      simp only [Act.put, List.getElem_toArray, List.getElem_cons_succ, List.getElem_cons_zero, List.setIfInBounds_toArray, List.set_cons_zero, List.set_cons_succ]
      refine fld_taken_nil ?_
      refine fld_alone (i := 36) (by kernel_rfl) rfl (by rfl) (fun K hK => ?_)
      go_simp
      refine (qwakes_any V4).mono ?_
      rintro e V7 ⟨rfl, hb⟩
      have h7 := h4.trans (hb.mono h4.size)
      clear hb
      go_wp2_with fail
      refine hK.out _ _ h7 ?_
      clear hK K
      refine fld_takes [37, 38] _ 0 _ _ _ (by kernel_rfl) (fun _ d _ _ _ h => by cases d <;> exact h) (by rfl) (by kernel_rfl) (by assumption) ?_
      refine fld_taken (v := ?_) rfl (by rfl) (fun w' hw' => ?_) ?_
      rotate_left
      · (go_simp <;> with_reducible rfl)
      simp only [Act.put, List.getElem_toArray, List.getElem_cons_succ, List.getElem_cons_zero, List.setIfInBounds_toArray, List.set_cons_zero, List.set_cons_succ]
      refine fld_taken (v := ?_) rfl (by rfl) (fun w' hw' => ?_) ?_
      rotate_left
      · (go_simp <;> with_reducible rfl)
      simp only [Act.put, List.getElem_toArray, List.getElem_cons_succ, List.getElem_cons_zero, List.setIfInBounds_toArray, List.set_cons_zero, List.set_cons_succ]
      refine fld_taken_nil ?_
      refine wpAnyH_done (by kernel_rfl) ?_ _
      have hfin := b4.trans (h7.mono b4.size)
      go_wp2
      go_ret
      exact ⟨rfl, hfin⟩
end Go.Proofs.Ytfcifblbapadpaa
