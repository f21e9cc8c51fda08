/-
  The walk over EntryTells: it returns true and turns nothing that was there. Conditions: what is said of the arguments.
-/
import Derived.Test.YtchpemgamgcbkaaGreatEntWakes
import Derived.Test.YtchpemgamgcbkaaGreatEntGreat
import Derived.Test.YtchpemgamgcbkaaGreatEntBytesR
namespace Go.Proofs.YtchpemgamgcbkaaGreat
open Go.RowKit

/-- Four variables, in the blocks behind w. -/
structure L4 (w wr : World) (cx cy cp cq : Array Value) : Prop where
  vx : Var wr w.heap.size 32 cx
  vy : Var wr (w.heap.size + 1) 32 cy
  vp : Var wr (w.heap.size + 1 + 1) 30 cp
  vq : Var wr (w.heap.size + 1 + 1 + 1) 30 cq
  below : Below w.heap.size w wr
theorem L4.next {w wr w' : World} {cx cy cp cq : Array Value} (h : L4 w wr cx cy cp cq) (hb : Below wr.heap.size wr w') : L4 w w' cx cy cp cq :=
  ⟨h.vx.below hb h.vx.lt, h.vy.below hb h.vy.lt, h.vp.below hb h.vp.lt, h.vq.below hb h.vq.lt, h.below.trans (hb.mono h.below.size)⟩
theorem L4.new (w : World) (cx cy cp cq : Array Value) : L4 w ((((w.alloc (.cells cx 32)).alloc (.cells cy 32)).alloc (.cells cp 30)).alloc (.cells cq 30)) cx cy cp cq := by
  have b1 := below_new (w := w) (.cells cx 32)
  have v1 := Var.new w cx 32
  have v2 := Var.new (w.alloc (.cells cx 32)) cy 32
  have v3 := Var.new ((w.alloc (.cells cx 32)).alloc (.cells cy 32)) cp 30
  have v4 := Var.new (((w.alloc (.cells cx 32)).alloc (.cells cy 32)).alloc (.cells cp 30)) cq 30
  have b2 := b1.alloc b1.size (.cells cy 32)
  have b3 := b2.alloc b2.size (.cells cp 30)
  have b4 := b3.alloc b3.size (.cells cq 30)
  simp only [World.size_alloc] at v2 v3 v4
  exact ⟨((v1.alloc _).alloc _).alloc _, (v2.alloc _).alloc _, v3.alloc _, v4, b4⟩

set_option maxRecDepth 100000 in
set_option maxHeartbeats 4000000 in
theorem tells_walk (x y : En) (A1 D1 A2 D2 : Option Addr) (n1 c1 m1 d1 n2 c2 m2 d2 : Nat) (p q : Pd) (A3 A4 : Option Addr) (n3 c3 n4 c4 : Nat) (w : World) (hx : EIn w w.heap.size x A1 n1 c1 D1 m1 d1) (hy : EIn w w.heap.size y A2 n2 c2 D2 m2 d2) (hp : PIn w w.heap.size p A3 n3 c3) (hq : PIn w w.heap.size q A4 n4 c4) :
    Calls Tryz.prog 3 #[.agg (evals x A1 n1 c1 D1 m1 d1), .agg (evals y A2 n2 c2 D2 m2 d2), .agg (pvals p A3 n3 c3), .agg (pvals q A4 n4 c4)] w fun e w' => e = .returned (.bool true) ∧ Below w.heap.size w w' := by
  have HX := Lib.hid hx
  have HY := Lib.hid hy
  have HP := Lib.hid hp
  have HQ := Lib.hid hq
  have mp := hp.max
  have mq := hq.max
  clear hx hy hp hq
  obtain ⟨cx, hcx⟩ : ∃ cx, cx = evals x A1 n1 c1 D1 m1 d1 := ⟨_, rfl⟩
  obtain ⟨cy, hcy⟩ : ∃ cx, cx = evals y A2 n2 c2 D2 m2 d2 := ⟨_, rfl⟩
  have zx : cx.size = 18 := by rw [hcx]; rfl
  have zy : cy.size = 18 := by rw [hcy]; rfl
  obtain ⟨W0, hW0⟩ : ∃ W0, W0 = (((w.alloc (.cells cx 32)).alloc (.cells cy 32)).alloc (.cells (pvals p A3 n3 c3) 30)).alloc (.cells (pvals q A4 n4 c4) 30) := ⟨_, rfl⟩
  have st : L4 w W0 cx cy (pvals p A3 n3 c3) (pvals q A4 n4 c4) := by rw [hW0]; exact L4.new _ _ _ _ _
  rw [hcx, hcy] at hW0
  have HW0 := Lib.hid hW0
  clear hW0
  simp only [evals, pvals] at HW0
  have hcx' := hcx
  have hcy' := hcy
  simp only [evals] at hcx' hcy' ⊢
  simp only [pvals] at st ⊢
  go_enter Tryz.func3, Tryz.ntmps3
  go_upto_region 1 with fail
  rw [← HW0.out]
  clear HW0 hcx' hcy'
  have ix : (Tryz.prog.info? 32).map (·.size) = some cx.size := by rw [zx]; kernel_rfl
  have iy : (Tryz.prog.info? 32).map (·.size) = some cy.size := by rw [zy]; kernel_rfl
  have IX := Lib.hid ix
  have IY := Lib.hid iy
  have CX := Lib.hid hcx
  have CY := Lib.hid hcy
  clear ix iy zx zy hcx hcy
  go_wp2_with (refine wpList_load_var rfl _ rfl Tryz.underlying32 rfl rfl st.vx IX.out ?_)
  refine (show Calls _ _ #[.agg cx] _ _ from by rw [CX.out]; exact (egreat_any x A1 D1 n1 c1 m1 d1 _ W0 (HX.out.below st.below) st.below.size)).mono ?_
  rintro e W1 ⟨g1, rfl, hb⟩
  have st := st.next hb
  clear hb
  cases g1 with
  | true =>
    go_wp2_with fail
    refine (wakes_any _).mono ?_
    rintro e w9 ⟨rfl, hb⟩
    have st := st.next hb
    go_wp2
    go_ret
    exact ⟨rfl, st.below⟩
  | false =>
    go_wp2_with (refine wpList_load_want (by rfl) _ rfl Tryz.underlying32 rfl rfl st.vy IY.out ?_)
    refine (show Calls _ _ #[.agg cy] _ _ from by rw [CY.out]; exact (egreat_any y A2 D2 n2 c2 m2 d2 _ W1 (HY.out.below st.below) st.below.size)).mono ?_
    rintro e W2 ⟨g2, rfl, hb⟩
    have st := st.next hb
    clear hb
    cases g2 with
    | true =>
      go_wp2_with fail
      refine (wakes_any _).mono ?_
      rintro e w9 ⟨rfl, hb⟩
      have st := st.next hb
      go_wp2
      go_ret
      exact ⟨rfl, st.below⟩
    | false =>
      have dp := st.vp.cell 3 rfl
      have dq := st.vq.cell 3 rfl
      have lp := st.vp.lt
      have lq := st.vq.lt
      by_cases h3 : 40 < n3
      · have t3 : decide ((40 : Int) < (n3 : Int)) = true := by simp; omega
        go_wp2_with fail
        refine (wakes_any _).mono ?_
        rintro e w9 ⟨rfl, hb⟩
        have st := st.next hb
        go_wp2
        go_ret
        exact ⟨rfl, st.below⟩
      have t3 : decide ((40 : Int) < (n3 : Int)) = false := bool_dec _ (by omega)
      by_cases h4 : 40 < n4
      · have t4 : decide ((40 : Int) < (n4 : Int)) = true := by simp; omega
        go_wp2_with fail
        refine (wakes_any _).mono ?_
        rintro e w9 ⟨rfl, hb⟩
        have st := st.next hb
        go_wp2
        go_ret
        exact ⟨rfl, st.below⟩
      have t4 : decide ((40 : Int) < (n4 : Int)) = false := bool_dec _ (by omega)
      obtain ⟨s, er, hs⟩ := eBytesIs_of x
      have HS := Lib.hid hs
      clear hs h3 h4
      go_wp2_with (refine wpList_load_var rfl _ rfl Tryz.underlying32 rfl rfl st.vx IX.out ?_)
      refine (show Calls _ _ #[.agg cx] _ _ from by rw [CX.out]; exact (ebytes_all x A1 D1 n1 c1 m1 d1 _ s er W2 HS.out (HX.out.below st.below) st.below.size)).mono ?_
      rintro e W3 ⟨rfl, hb⟩
      have st := st.next hb
      clear hb dp dq lp lq t3 t4
      go_wp2_with (refine wpList_load_var rfl _ rfl Tryz.underlying32 rfl rfl st.vx IX.out ?_)
      refine (show Calls _ _ #[.agg cx] _ _ from by rw [CX.out]; exact (ref_ebytes_all x A1 D1 n1 c1 m1 d1 _ s er W3 HS.out (HX.out.below st.below) st.below.size)).mono ?_
      rintro e W4 ⟨rfl, hb⟩
      have st := st.next hb
      clear hb HS
      obtain ⟨v1, hv1⟩ := iff_of x.Good
      obtain ⟨v2, hv2⟩ := iff_of (x = y)
      obtain ⟨v3, hv3⟩ := iff_of p.Good
      obtain ⟨v4, hv4⟩ := iff_of (p = q)
      have HV1 := Lib.hid hv1
      have HV2 := Lib.hid hv2
      have HV3 := Lib.hid hv3
      have HV4 := Lib.hid hv4
      clear hv1 hv2 hv3 hv4
      go_wp2_with fail
      have q1 : (s.toList == s.toList) = true := by simp
      have q2 : (er == er) = true := by simp
      have q3 : (v1 == v1) = true := by simp
      have q4 : (v2 == v2) = true := by simp
      have q5 : (v3 == v3) = true := by simp
      have q6 : (v4 == v4) = true := by simp
      have h4 : L4 w W4.drew cx cy #[.int .i64 p.pid, .int .i64 p.ep, .int .i64 p.nx, .slice A3 n3 c3] #[.int .i64 q.pid, .int .i64 q.ep, .int .i64 q.nx, .slice A4 n4 c4] := st.next ((Below.refl _ _).drew)
      clear st
      refine wp_region_held_drew (S := fun w' => L4 w w' cx cy #[.int .i64 p.pid, .int .i64 p.ep, .int .i64 p.nx, .slice A3 n3 c3] #[.int .i64 q.pid, .int .i64 q.ep, .int .i64 q.nx, .slice A4 n4 c4]) (by kernel_rfl) h4 (fun hHeld => ?_)
      generalize W4.drew = W5 at h4 hHeld ⊢
      clear hHeld
      refine fld_takes [0, 1, 2, 3, 4, 5, 6, 7, 8, 9, 11] _ 33 _ _ _ (by kernel_rfl) (fun _ d _ _ _ h => by cases d <;> exact h) (by rfl) (by kernel_rfl) (by assumption) ?_
      refine fld_taken (v := ?_) rfl (by rfl) (fun w' hw' => ?_) ?_
      rotate_left
      · (go_simp <;> with_reducible rfl)
      simp only [Act.put, List.getElem_toArray, List.getElem_cons_zero, List.setIfInBounds_toArray, List.set_cons_zero, List.set_cons_succ]
      refine fld_taken (v := ?_) rfl (by rfl) (fun w' hw' => ?_) ?_
      rotate_left
      · (go_simp <;> with_reducible rfl)
      simp only [Act.put, List.getElem_toArray, List.getElem_cons_succ, List.getElem_cons_zero, List.setIfInBounds_toArray, List.set_cons_zero, List.set_cons_succ]
      refine fld_taken (v := ?_) rfl (by rfl) (fun w' hw' => ?_) ?_
      rotate_left
      · (go_simp <;> with_reducible rfl)
      simp only [Act.put, List.getElem_toArray, List.getElem_cons_succ, List.getElem_cons_zero, List.setIfInBounds_toArray, List.set_cons_zero, List.set_cons_succ]
      refine fld_taken (v := ?_) rfl (by rfl) (fun w' hw' => ?_) ?_
      rotate_left
      · (go_simp <;> with_reducible rfl)
      simp only [Act.put, List.getElem_toArray, List.getElem_cons_succ, List.getElem_cons_zero, List.setIfInBounds_toArray, List.set_cons_zero, List.set_cons_succ]
      refine fld_taken (v := ?_) rfl (by rfl) (fun w' hw' => ?_) ?_
      rotate_left
      · (go_simp <;> with_reducible rfl)
      simp only [Act.put, List.getElem_toArray, List.getElem_cons_succ, List.getElem_cons_zero, List.setIfInBounds_toArray, List.set_cons_zero, List.set_cons_succ]
      refine fld_taken (v := ?_) rfl (by rfl) (fun w' hw' => ?_) ?_
      rotate_left
      · (go_simp <;> with_reducible rfl)
      simp only [Act.put, List.getElem_toArray, List.getElem_cons_succ, List.getElem_cons_zero, List.setIfInBounds_toArray, List.set_cons_zero, List.set_cons_succ]
      refine fld_taken (v := ?_) rfl (by rfl) (fun w' hw' => ?_) ?_
      rotate_left
      · (go_simp <;> with_reducible rfl)
      simp only [Act.put, List.getElem_toArray, List.getElem_cons_succ, List.getElem_cons_zero, List.setIfInBounds_toArray, List.set_cons_zero, List.set_cons_succ]
      refine fld_taken (v := ?_) rfl (by rfl) (fun w' hw' => ?_) ?_
      rotate_left
      · (go_simp <;> with_reducible rfl)
      simp only [Act.put, List.getElem_toArray, List.getElem_cons_succ, List.getElem_cons_zero, List.setIfInBounds_toArray, List.set_cons_zero, List.set_cons_succ]
      refine fld_taken (v := ?_) rfl (by rfl) (fun w' hw' => ?_) ?_
      rotate_left
      · (go_simp <;> with_reducible rfl)
      simp only [Act.put, List.getElem_toArray, List.getElem_cons_succ, List.getElem_cons_zero, List.setIfInBounds_toArray, List.set_cons_zero, List.set_cons_succ]
      refine fld_taken (v := ?_) rfl (by rfl) (fun w' hw' => ?_) ?_
      rotate_left
      · refine exec_load_var (x := .tmp 4) ?_ ?_ hw'.vx Tryz.underlying32 rfl IX.out <;> rfl
      simp only [Act.put, List.getElem_toArray, List.getElem_cons_succ, List.getElem_cons_zero, List.setIfInBounds_toArray, List.set_cons_zero, List.set_cons_succ]
      refine fld_taken (v := ?_) rfl (by rfl) (fun w' hw' => ?_) ?_
      rotate_left
      · refine exec_load_var (x := .tmp 4) ?_ ?_ hw'.vx Tryz.underlying32 rfl IX.out <;> rfl
      simp only [Act.put, List.getElem_toArray, List.getElem_cons_succ, List.getElem_cons_zero, List.setIfInBounds_toArray, List.set_cons_zero, List.set_cons_succ]
      refine fld_taken_nil ?_
      refine fld_alone (i := 10) (by kernel_rfl) rfl (by rfl) (fun K hK => ?_)
      go_simp
      refine (show Calls _ _ #[.agg cx] _ _ from by rw [CX.out]; exact (emay_any x A1 D1 n1 c1 m1 d1 _ v1 W5 (HX.out.below h4.below) h4.below.size HV1.out)).mono ?_
      rintro e W6 ⟨rfl, hb⟩
      have h5 := h4.next hb
      clear hb
      go_wp2_with fail
      refine hK.out _ _ h5 ?_
      clear hK K h4
      refine fld_alone (i := 12) (by kernel_rfl) rfl (by rfl) (fun K hK => ?_)
      go_simp
      refine (show Calls _ _ #[.agg cx] _ _ from by rw [CX.out]; exact (ref_emay_any x A1 D1 n1 c1 m1 d1 _ v1 W6 (HX.out.below h5.below) h5.below.size HV1.out)).mono ?_
      rintro e W7 ⟨rfl, hb⟩
      have h6 := h5.next hb
      clear hb
      go_wp2_with fail
      refine hK.out _ _ h6 ?_
      clear hK K h5
      refine fld_takes [13, 14, 15, 16, 17, 19, 20] _ 24 _ _ _ (by kernel_rfl) (fun _ d _ _ _ h => by cases d <;> exact h) (by rfl) (by kernel_rfl) (by assumption) ?_
      refine fld_taken (v := ?_) rfl (by rfl) (fun w' hw' => ?_) ?_
      rotate_left
      · (go_simp <;> with_reducible rfl)
      simp only [Act.put, List.getElem_toArray, List.getElem_cons_succ, List.getElem_cons_zero, List.setIfInBounds_toArray, List.set_cons_zero, List.set_cons_succ]
      refine fld_taken (v := ?_) rfl (by rfl) (fun w' hw' => ?_) ?_
      rotate_left
      · (go_simp <;> with_reducible rfl)
      simp only [Act.put, List.getElem_toArray, List.getElem_cons_succ, List.getElem_cons_zero, List.setIfInBounds_toArray, List.set_cons_zero, List.set_cons_succ]
      refine fld_taken (v := ?_) rfl (by rfl) (fun w' hw' => ?_) ?_
      rotate_left
      · (go_simp <;> with_reducible rfl)
      simp only [Act.put, List.getElem_toArray, List.getElem_cons_succ, List.getElem_cons_zero, List.setIfInBounds_toArray, List.set_cons_zero, List.set_cons_succ]
      refine fld_taken (v := ?_) rfl (by rfl) (fun w' hw' => ?_) ?_
      rotate_left
      · refine exec_load_var (x := .tmp 4) ?_ ?_ hw'.vx Tryz.underlying32 rfl IX.out <;> rfl
      simp only [Act.put, List.getElem_toArray, List.getElem_cons_succ, List.getElem_cons_zero, List.setIfInBounds_toArray, List.set_cons_zero, List.set_cons_succ]
      refine fld_taken (v := ?_) rfl (by rfl) (fun w' hw' => ?_) ?_
      rotate_left
      · refine exec_load_var (x := .tmp 5) ?_ ?_ hw'.vy Tryz.underlying32 rfl IY.out <;> rfl
      simp only [Act.put, List.getElem_toArray, List.getElem_cons_succ, List.getElem_cons_zero, List.setIfInBounds_toArray, List.set_cons_zero, List.set_cons_succ]
      refine fld_taken (v := ?_) rfl (by rfl) (fun w' hw' => ?_) ?_
      rotate_left
      · refine exec_load_var (x := .tmp 4) ?_ ?_ hw'.vx Tryz.underlying32 rfl IX.out <;> rfl
      simp only [Act.put, List.getElem_toArray, List.getElem_cons_succ, List.getElem_cons_zero, List.setIfInBounds_toArray, List.set_cons_zero, List.set_cons_succ]
      refine fld_taken (v := ?_) rfl (by rfl) (fun w' hw' => ?_) ?_
      rotate_left
      · refine exec_load_var (x := .tmp 5) ?_ ?_ hw'.vy Tryz.underlying32 rfl IY.out <;> rfl
      simp only [Act.put, List.getElem_toArray, List.getElem_cons_succ, List.getElem_cons_zero, List.setIfInBounds_toArray, List.set_cons_zero, List.set_cons_succ]
      refine fld_taken_nil ?_
      refine fld_alone (i := 18) (by kernel_rfl) rfl (by rfl) (fun K hK => ?_)
      go_simp
      refine (show Calls _ _ #[.agg cx, .agg cy] _ _ from by rw [CX.out, CY.out]; exact (esame_any x y A1 A2 D1 D2 n1 n2 c1 c2 m1 m2 d1 d2 _ v2 W7 (HX.out.below h6.below) (HY.out.below h6.below) h6.below.size HV2.out)).mono ?_
      rintro e W8 ⟨rfl, hb⟩
      have h7 := h6.next hb
      clear hb
      go_wp2_with fail
      refine hK.out _ _ h7 ?_
      clear hK K h6
      refine fld_alone (i := 21) (by kernel_rfl) rfl (by rfl) (fun K hK => ?_)
      go_simp
      refine (show Calls _ _ #[.agg cx, .agg cy] _ _ from by rw [CX.out, CY.out]; exact (ref_esame_any x y A1 A2 D1 D2 n1 n2 c1 c2 m1 m2 d1 d2 _ v2 W8 (HX.out.below h7.below) (HY.out.below h7.below) h7.below.size HV2.out)).mono ?_
      rintro e W9 ⟨rfl, hb⟩
      have h8 := h7.next hb
      clear hb
      go_wp2_with fail
      refine hK.out _ _ h8 ?_
      clear hK K h7
      refine fld_takes [22, 23, 24, 25, 27] _ 17 _ _ _ (by kernel_rfl) (fun _ d _ _ _ h => by cases d <;> exact h) (by rfl) (by kernel_rfl) (by assumption) ?_
      refine fld_taken (v := ?_) rfl (by rfl) (fun w' hw' => ?_) ?_
      rotate_left
      · (go_simp <;> with_reducible rfl)
      simp only [Act.put, List.getElem_toArray, List.getElem_cons_succ, List.getElem_cons_zero, List.setIfInBounds_toArray, List.set_cons_zero, List.set_cons_succ]
      refine fld_taken (v := ?_) rfl (by rfl) (fun w' hw' => ?_) ?_
      rotate_left
      · (go_simp <;> with_reducible rfl)
      simp only [Act.put, List.getElem_toArray, List.getElem_cons_succ, List.getElem_cons_zero, List.setIfInBounds_toArray, List.set_cons_zero, List.set_cons_succ]
      refine fld_taken (v := ?_) rfl (by rfl) (fun w' hw' => ?_) ?_
      rotate_left
      · (go_simp <;> with_reducible rfl)
      simp only [Act.put, List.getElem_toArray, List.getElem_cons_succ, List.getElem_cons_zero, List.setIfInBounds_toArray, List.set_cons_zero, List.set_cons_succ]
      refine fld_taken (v := ?_) rfl (by rfl) (fun w' hw' => ?_) ?_
      rotate_left
      · refine exec_load_var (x := .tmp 6) ?_ ?_ hw'.vp Tryz.underlying30 rfl (by kernel_rfl) <;> rfl
      simp only [Act.put, List.getElem_toArray, List.getElem_cons_succ, List.getElem_cons_zero, List.setIfInBounds_toArray, List.set_cons_zero, List.set_cons_succ]
      refine fld_taken (v := ?_) rfl (by rfl) (fun w' hw' => ?_) ?_
      rotate_left
      · refine exec_load_var (x := .tmp 6) ?_ ?_ hw'.vp Tryz.underlying30 rfl (by kernel_rfl) <;> rfl
      simp only [Act.put, List.getElem_toArray, List.getElem_cons_succ, List.getElem_cons_zero, List.setIfInBounds_toArray, List.set_cons_zero, List.set_cons_succ]
      refine fld_taken_nil ?_
      refine fld_alone (i := 26) (by kernel_rfl) rfl (by rfl) (fun K hK => ?_)
      go_simp
      refine (known_any p A3 n3 c3 _ v3 W9 (HP.out.below h8.below) h8.below.size HV3.out).mono ?_
      rintro e W10 ⟨rfl, hb⟩
      have h9 := h8.next hb
      clear hb
      go_wp2_with fail
      refine hK.out _ _ h9 ?_
      clear hK K h8
      refine fld_alone (i := 28) (by kernel_rfl) rfl (by rfl) (fun K hK => ?_)
      go_simp
      refine (ref_known_any p A3 n3 c3 _ v3 W10 (HP.out.below h9.below) h9.below.size HV3.out).mono ?_
      rintro e W11 ⟨rfl, hb⟩
      have h10 := h9.next hb
      clear hb
      go_wp2_with fail
      refine hK.out _ _ h10 ?_
      clear hK K h9
      refine fld_takes [29, 30, 31, 32, 33, 35, 36] _ 8 _ _ _ (by kernel_rfl) (fun _ d _ _ _ h => by cases d <;> exact h) (by rfl) (by kernel_rfl) (by assumption) ?_
      refine fld_taken (v := ?_) rfl (by rfl) (fun w' hw' => ?_) ?_
      rotate_left
      · (go_simp <;> with_reducible rfl)
      simp only [Act.put, List.getElem_toArray, List.getElem_cons_succ, List.getElem_cons_zero, List.setIfInBounds_toArray, List.set_cons_zero, List.set_cons_succ]
      refine fld_taken (v := ?_) rfl (by rfl) (fun w' hw' => ?_) ?_
      rotate_left
      · (go_simp <;> with_reducible rfl)
      simp only [Act.put, List.getElem_toArray, List.getElem_cons_succ, List.getElem_cons_zero, List.setIfInBounds_toArray, List.set_cons_zero, List.set_cons_succ]
      refine fld_taken (v := ?_) rfl (by rfl) (fun w' hw' => ?_) ?_
      rotate_left
      · (go_simp <;> with_reducible rfl)
      simp only [Act.put, List.getElem_toArray, List.getElem_cons_succ, List.getElem_cons_zero, List.setIfInBounds_toArray, List.set_cons_zero, List.set_cons_succ]
      refine fld_taken (v := ?_) rfl (by rfl) (fun w' hw' => ?_) ?_
      rotate_left
      · refine exec_load_var (x := .tmp 6) ?_ ?_ hw'.vp Tryz.underlying30 rfl (by kernel_rfl) <;> rfl
      simp only [Act.put, List.getElem_toArray, List.getElem_cons_succ, List.getElem_cons_zero, List.setIfInBounds_toArray, List.set_cons_zero, List.set_cons_succ]
      refine fld_taken (v := ?_) rfl (by rfl) (fun w' hw' => ?_) ?_
      rotate_left
      · refine exec_load_var (x := .tmp 7) ?_ ?_ hw'.vq Tryz.underlying30 rfl (by kernel_rfl) <;> rfl
      simp only [Act.put, List.getElem_toArray, List.getElem_cons_succ, List.getElem_cons_zero, List.setIfInBounds_toArray, List.set_cons_zero, List.set_cons_succ]
      refine fld_taken (v := ?_) rfl (by rfl) (fun w' hw' => ?_) ?_
      rotate_left
      · refine exec_load_var (x := .tmp 6) ?_ ?_ hw'.vp Tryz.underlying30 rfl (by kernel_rfl) <;> rfl
      simp only [Act.put, List.getElem_toArray, List.getElem_cons_succ, List.getElem_cons_zero, List.setIfInBounds_toArray, List.set_cons_zero, List.set_cons_succ]
      refine fld_taken (v := ?_) rfl (by rfl) (fun w' hw' => ?_) ?_
      rotate_left
      · refine exec_load_var (x := .tmp 7) ?_ ?_ hw'.vq Tryz.underlying30 rfl (by kernel_rfl) <;> rfl
      simp only [Act.put, List.getElem_toArray, List.getElem_cons_succ, List.getElem_cons_zero, List.setIfInBounds_toArray, List.set_cons_zero, List.set_cons_succ]
      refine fld_taken_nil ?_
      refine fld_alone (i := 34) (by kernel_rfl) rfl (by rfl) (fun K hK => ?_)
      go_simp
      refine (sprod_any p q A3 A4 n3 n4 c3 c4 _ v4 W11 (HP.out.below h10.below) (HQ.out.below h10.below) h10.below.size HV4.out).mono ?_
      rintro e W12 ⟨rfl, hb⟩
      have h11 := h10.next hb
      clear hb
      go_wp2_with fail
      refine hK.out _ _ h11 ?_
      clear hK K h10
      refine fld_alone (i := 37) (by kernel_rfl) rfl (by rfl) (fun K hK => ?_)
      go_simp
      refine (ref_sprod_any p q A3 A4 n3 n4 c3 c4 _ v4 W12 (HP.out.below h11.below) (HQ.out.below h11.below) h11.below.size HV4.out).mono ?_
      rintro e W13 ⟨rfl, hb⟩
      have h12 := h11.next hb
      clear hb
      go_wp2_with fail
      refine hK.out _ _ h12 ?_
      clear hK K h11
      refine fld_takes [38, 39, 40] _ 3 _ _ _ (by kernel_rfl) (fun _ d _ _ _ h => by cases d <;> exact h) (by rfl) (by kernel_rfl) (by assumption) ?_
      refine fld_taken (v := ?_) rfl (by rfl) (fun w' hw' => ?_) ?_
      rotate_left
      · (go_simp <;> with_reducible rfl)
      simp only [Act.put, List.getElem_toArray, List.getElem_cons_succ, List.getElem_cons_zero, List.setIfInBounds_toArray, List.set_cons_zero, List.set_cons_succ]
      refine fld_taken (v := ?_) rfl (by rfl) (fun w' hw' => ?_) ?_
      rotate_left
      · (go_simp <;> with_reducible rfl)
      simp only [Act.put, List.getElem_toArray, List.getElem_cons_succ, List.getElem_cons_zero, List.setIfInBounds_toArray, List.set_cons_zero, List.set_cons_succ]
      refine fld_taken (v := ?_) rfl (by rfl) (fun w' hw' => ?_) ?_
      rotate_left
      · (go_simp <;> with_reducible rfl)
      simp only [Act.put, List.getElem_toArray, List.getElem_cons_succ, List.getElem_cons_zero, List.setIfInBounds_toArray, List.set_cons_zero, List.set_cons_succ]
      refine fld_taken_nil ?_
      refine fld_alone (i := 41) (by kernel_rfl) rfl (by rfl) (fun K hK => ?_)
      go_simp
      refine (wakes_any W13).mono ?_
      rintro e W14 ⟨rfl, hb⟩
      have h13 := h12.next hb
      clear hb
      go_wp2_with fail
      refine hK.out _ _ h13 ?_
      clear hK K h12
      refine fld_takes [42, 43] _ 0 _ _ _ (by kernel_rfl) (fun _ d _ _ _ h => by cases d <;> exact h) (by rfl) (by kernel_rfl) (by assumption) ?_
      refine fld_taken (v := ?_) rfl (by rfl) (fun w' hw' => ?_) ?_
      rotate_left
      · (go_simp <;> with_reducible rfl)
      simp only [Act.put, List.getElem_toArray, List.getElem_cons_succ, List.getElem_cons_zero, List.setIfInBounds_toArray, List.set_cons_zero, List.set_cons_succ]
      refine fld_taken (v := ?_) rfl (by rfl) (fun w' hw' => ?_) ?_
      rotate_left
      · (go_simp <;> with_reducible rfl)
      simp only [Act.put, List.getElem_toArray, List.getElem_cons_succ, List.getElem_cons_zero, List.setIfInBounds_toArray, List.set_cons_zero, List.set_cons_succ]
      refine fld_taken_nil ?_
      refine wpAnyH_done (by kernel_rfl) ?_ _
      have hfin := h13.below
      go_wp2
      go_ret
      exact ⟨rfl, hfin⟩
end Go.Proofs.YtchpemgamgcbkaaGreat
