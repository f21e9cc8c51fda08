/-
  Contracts of reply's levelled and Alike. Conditions: those that each theorem names.
-/
import Derived.Test.YtplpagnnlggfgaaDoorRepLev
namespace Go.Proofs.YtplpagnnlggfgaaDoor
open Go.RowKit

theorem exec_load_v {P : Program} {w : World} {g T ty : Nat} {cs : Array Value} {ρ : Operand → Value} {o : Oper} {x : Operand} {d : TypeDesc} (ho : o.op = .load ty x) (hx : ρ x = .pointer (some ⟨g, 0, none⟩)) (hv : Var w g T cs) (hu : P.underlying ty = some d)
    (hd : (match d with | .struct _ | .array _ _ => true | _ => false) = true) (hi : (P.info? ty).map (·.size) = some cs.size) : (execOp ρ o).run P w = .ok (.value (.agg cs)) w := by
  unfold execOp
  simp only [ho, hx, Instr.loadAt, Instr.sureAddr, Sem.run_bind, Sem.run_pure, Result.andThen_ok, run_loadVar_row w g T ty cs (0, 0) d hv hu hd hi]
theorem lev_step {l : List Rw} {k : Nat} {r : Rw} (h : l[k]? = some r) : (((l.take k).map levR ++ l.drop k).set k { r with off := levI r.off }) = (l.take (k + 1)).map levR ++ l.drop (k + 1) := by
  have hk := (List.getElem?_eq_some_iff.1 h).1
  have hl : ((l.take k).map levR).length = k := by rw [List.length_map, List.length_take]; omega
  rw [List.set_append_right k _ (by omega), hl, Nat.sub_self, List.drop_eq_getElem_cons hk, List.set_cons_zero, List.take_add_one, h]
  rw [List.map_append, List.append_assoc]
  rfl
theorem lev_here {l : List Rw} {k : Nat} {r : Rw} (h : l[k]? = some r) : ((l.take k).map levR ++ l.drop k)[k]? = some r := by
  have hk := (List.getElem?_eq_some_iff.1 h).1
  rw [List.getElem?_append_right (by rw [List.length_map, List.length_take]; omega), List.length_map, List.length_take, List.getElem?_drop, show k + (k - min k l.length) = k by omega, h]
theorem lev_sizes {l : List Rw} (h : ∀ y ∈ l, y.k.size ≤ 9223372036854775807 ∧ y.v.size ≤ 9223372036854775807) : ∀ y ∈ l.map levR, y.k.size ≤ 9223372036854775807 ∧ y.v.size ≤ 9223372036854775807 := by
  intro y hy
  obtain ⟨x, hx, rfl⟩ := List.mem_map.1 hy
  exact h x hx
/-- What levelled hands back. -/
def LevRes (x : Rp) (n : Nat) (w : World) (e : Ending) (w' : World) : Prop := ∃ A' c', e = .returned (.agg (rpvals (lev x) A' n c')) ∧ RIn w' w'.heap.size (lev x) A' n c' ∧ Below w.heap.size w w'

set_option maxRecDepth 100000 in
set_option maxHeartbeats 2000000 in
theorem plev_any (x : Rp) (A : Option Addr) (n c B : Nat) (w : World) (hx : RIn w B x A n c) (hB : B ≤ w.heap.size) (hm : n ≤ 1000) : Calls Tryd.prog 18 #[.agg (rpvals x A n c)] w (LevRes x n w) := by
  obtain ⟨kind, e, pid, ep, off, l⟩ := x
  obtain ⟨hlen, hseen, hcap, hmax, hz⟩ := hx
  simp only at hlen hseen hz
  simp only [rpvals]
  obtain ⟨W0, hW0⟩ : ∃ W0, W0 = (w.alloc (.cells #[.int .i8 kind, .int .i64 e, .int .i64 pid, .int .i64 ep, .int .i64 off, .slice A n c] 26)).alloc (.cells #[.int .i8 0, .int .i64 0, .int .i64 0, .int .i64 0, .int .i64 0, .slice none 0 0] 26) := ⟨_, rfl⟩
  obtain ⟨v0, v1, hbel⟩ := two_new w #[.int .i8 kind, .int .i64 e, .int .i64 pid, .int .i64 ep, .int .i64 off, .slice A n c] #[.int .i8 0, .int .i64 0, .int .i64 0, .int .i64 0, .int .i64 0, .slice none 0 0] 26
  rw [← hW0] at v0 v1 hbel
  have hseen0 := hseen.below (hbel.mono hB)
  have HW0 := Lib.hid hW0
  have HLEN := Lib.hid hlen
  obtain ⟨g0, g1, g2, g3, g4, g5⟩ := v0.cells6
  have z0 := v0.lt
  have z1 := v1.lt
  have f0 := v0.free
  clear hW0 hlen hseen
  go_enter Tryd.func18, Tryd.ntmps18
  go_upto_region 1 with fail
  rw [← HW0.out]
  go_wp2_with fail
  refine (lev_any off _).mono ?_
  rintro e1 w1 ⟨rfl, rfl⟩
  go_upto_region 2 with fail
  obtain ⟨W1, hW1⟩ : ∃ W1, W1 = W0.setCell ⟨w.heap.size, 4, none⟩ (.int .i64 (levI off)) := ⟨_, rfl⟩
  have u0 : Var W1 w.heap.size 26 #[.int .i8 kind, .int .i64 e, .int .i64 pid, .int .i64 ep, .int .i64 (levI off), .slice A n c] := by rw [hW1]; exact v0.set 4 _
  have u1 : Var W1 (w.heap.size + 1) 26 #[.int .i8 0, .int .i64 0, .int .i64 0, .int .i64 0, .int .i64 0, .slice none 0 0] := by rw [hW1]; exact v1.other _ _ (by omega)
  have bel1 : Below w.heap.size w W1 := by rw [hW1]; exact hbel.setCell (Nat.le_refl _) _
  have hs1 : Seen W1 B A (rwcells l) := by rw [hW1]; exact hseen0.below ((Below.refl _ _).setCell hB _)
  rw [← hW1]
  clear hW1 v0 v1 hbel hseen0 g0 g1 g2 g3 g4 g5 f0 z0 z1 HW0
  obtain ⟨g0, g1, g2, g3, g4, g5⟩ := u0.cells6
  have z0 := u0.lt
  have f0 := u0.free
  have hBW : B ≤ W1.heap.size := by have := bel1.size; omega
  go_wp2_with fail
  refine (clone_any A n c B l W1 HLEN.out hs1 hm hBW).mono ?_
  rintro e2 w2 ⟨A', c', rfl, ho, hb2⟩
  have x0 := u0.below hb2 u0.lt
  have x1 := u1.below hb2 u1.lt
  have q5 := x0.cell 5 rfl
  have f5 := x0.free 5
  have z2 := x0.lt
  have hz1 := u1.lt
  have bel2 := bel1.trans (hb2.mono bel1.size)
  clear g0 g1 g2 g3 g4 g5 f0 z0 hs1
  go_upto_region 3 with fail
  obtain ⟨W3, hW3⟩ : ∃ W3, W3 = w2.setCell ⟨w.heap.size, 5, none⟩ (.slice A' n c') := ⟨_, rfl⟩
  have t0 : Var W3 w.heap.size 26 #[.int .i8 kind, .int .i64 e, .int .i64 pid, .int .i64 ep, .int .i64 (levI off), .slice A' n c'] := by rw [hW3]; exact x0.set 5 _
  have t1 : Var W3 (w.heap.size + 1) 26 #[.int .i8 0, .int .i64 0, .int .i64 0, .int .i64 0, .int .i64 0, .slice none 0 0] := by rw [hW3]; exact x1.other _ _ (by omega)
  have bel3 : Below w.heap.size w W3 := by rw [hW3]; exact bel2.setCell (Nat.le_refl _) _
  have ho3 : W3.ownsRow (w.heap.size + 2) 37 5 (.slice A' n c') n (rwcells l) := by rw [hW3]; exact own_set (own_down ho (by omega)) (by show w.heap.size < w.heap.size + 2; omega) _
  rw [← hW3]
  clear hW3 x0 x1 q5 f5 z2 ho hb2 bel2 u0 u1 bel1 hz1
  have c5 := t0.cell 5 rfl
  have z0 := t0.lt
  go_wp2
  clear c5 z0
  go_loopw [16] (fun i wr => ∃ (k : Nat), k ≤ n ∧ i = .int .i64 k ∧ Var wr w.heap.size 26 #[.int .i8 kind, .int .i64 e, .int .i64 pid, .int .i64 ep, .int .i64 (levI off), .slice A' n c'] ∧ Var wr (w.heap.size + 1) 26 #[.int .i8 0, .int .i64 0, .int .i64 0, .int .i64 0, .int .i64 0, .slice none 0 0] ∧ Below w.heap.size w wr ∧ wr.ownsRow (w.heap.size + 2) 37 5 (.slice A' n c') n (rwcells ((l.take k).map levR ++ l.drop k))) (fun i _ => n - (intOf i).toNat)
  case atStart => exact ⟨0, by omega, rfl, t0, t1, bel3, by simpa using ho3⟩
  case round =>
    obtain ⟨k, hk, rfl, r0, r1, rb, ro⟩ := hrel
    by_cases hlt : k < n
    · obtain ⟨h, rfl⟩ := own_some ro (by omega)
      obtain ⟨r, hr⟩ := row_here HLEN.out hlt
      obtain ⟨p0, p1, p2, p3, p4⟩ := own_at ro (lev_here hr)
      obtain ⟨hh, hh2⟩ := own_lt ro
      have hfree := own_free ro
      have HSTEP := Lib.hid (lev_step hr)
      have HLEV := Lib.hid (lev_here hr)
      obtain ⟨ra, rp, rs, rk, rv⟩ := r
      simp only at p0 p1 p2 p3 p4
      have c5 := r0.cell 5 rfl
      have z0 := r0.lt
      have hnew : Var (wr.alloc (.cells #[.int .i64 ra, .int .i64 rp, .int .i64 rs, .string rk, .string rv] 37)) wr.heap.size 37 #[.int .i64 ra, .int .i64 rp, .int .i64 rs, .string rk, .string rv] := Var.new _ _ _
      have hlk : k * 5 < (rwcells ((l.take k).map levR ++ l.drop k)).length := by
        have h1 := rwcells_length ((l.take k).map levR ++ l.drop k)
        have h2 := (List.getElem?_eq_some_iff.1 HLEV.out).1
        omega
      have o1 := own_put (u := .int .i64 (levI ra)) ro hlk
      rw [← rwcells_set HLEV.out (levI ra), HSTEP.out] at o1
      have hb9 : Below (wr.setCell ⟨h, k * 5, none⟩ (.int .i64 (levI ra))).heap.size (wr.setCell ⟨h, k * 5, none⟩ (.int .i64 (levI ra))) (((wr.setCell ⟨h, k * 5, none⟩ (.int .i64 (levI ra))).alloc (.cells #[.int .i64 ra, .int .i64 rp, .int .i64 rs, .string rk, .string rv] 37)).drew) := (below_new _).trans (Below.refl _ _).drew
      have o2 := own_next o1 hb9
      have s0 := (r0.other (b := h) (k * 5) (.int .i64 (levI ra)) (by omega)).below hb9 (by simp [World.setCell]; exact r0.lt)
      have s1 := (r1.other (b := h) (k * 5) (.int .i64 (levI ra)) (by omega)).below hb9 (by simp [World.setCell]; exact r1.lt)
      have sb := (rb.setCell (p := ⟨h, k * 5, none⟩) (by show w.heap.size ≤ h; omega) (.int .i64 (levI ra))).trans (hb9.mono (by simp [World.setCell]; exact rb.size))
      have HOUT := Lib.hid (And.intro s0 (And.intro s1 (And.intro sb o2)))
      clear hr o1 o2 s0 s1 sb hb9 hlk
      go_wp2
      go_region_with (first | (go_at_call 26; refine (lev_any _ _).mono ?_; rintro e9 w9 ⟨rfl, rfl⟩))
      all_goals
        go_wp2
        go_roundw
        case rel => exact ⟨k + 1, by omega, by go_num, HOUT.out.1, HOUT.out.2.1, HOUT.out.2.2.1, HOUT.out.2.2.2⟩
        case measure => simp [intOf]; omega
    · have hkn : k = n := by omega
      have HL := Lib.hid HLEN.out
      go_wp2_with (first | (refine wpList_load_var rfl _ rfl Tryd.underlying26 rfl rfl r0 (by kernel_rfl) ?_) | (refine wpList_store_var rfl _ _ rfl rfl rfl r1 rfl (by kernel_rfl) (rpvals_one (⟨kind, e, pid, ep, levI off, []⟩ : Rp) A' n c') ?_; intro W9 v9 o9))
      refine bodyPost_ret (results_var rfl rfl v9 Tryd.underlying26 rfl (by kernel_rfl)) rfl ?_
      have hl9 : (l.take n).map levR ++ l.drop n = l.map levR := by rw [List.take_of_length_le (by have := HL.out; omega), List.drop_of_length_le (by have := HL.out; omega), List.append_nil]
      subst hkn
      rw [hl9] at ro
      have ro9 := Only.own ro o9 (by omega)
      obtain ⟨A2, c2, he, hs2, hc2⟩ := own_formN ro9
      injection he with e1 _ e3
      subst e1 e3
      exact ⟨A', c', rfl, ⟨by show (l.map levR).length = k; rw [List.length_map]; exact HL.out, hs2, hc2, hmax, lev_sizes hz⟩, Only.below rb o9 (by omega)⟩

set_option maxRecDepth 100000 in
set_option maxHeartbeats 2000000 in
theorem alike_any (x y : Rp) (A1 A2 : Option Addr) (n1 n2 c1 c2 B : Nat) (m : Bool) (w : World) (hx : RIn w B x A1 n1 c1) (hy : RIn w B y A2 n2 c2) (hB : B ≤ w.heap.size) (h1 : n1 ≤ 1000) (h2 : n2 ≤ 1000) (hm : m = true ↔ lev x = lev y) :
    Calls Tryd.prog 12 #[.agg (rpvals x A1 n1 c1), .agg (rpvals y A2 n2 c2)] w fun e w' => e = .returned (.bool m) ∧ Below w.heap.size w w' := by
  obtain ⟨W0, hW0⟩ : ∃ W0, W0 = (w.alloc (.cells (rpvals x A1 n1 c1) 26)).alloc (.cells (rpvals y A2 n2 c2) 26) := ⟨_, rfl⟩
  obtain ⟨v0, v1, hbel⟩ := two_new w (rpvals x A1 n1 c1) (rpvals y A2 n2 c2) 26
  rw [← hW0] at v0 v1 hbel
  have hx0 := hx.below (hbel.mono hB)
  have hy0 := hy.below (hbel.mono hB)
  have HW0 := Lib.hid hW0
  have HM := Lib.hid hm
  clear hW0 hm hx hy
  go_enter Tryd.func12, Tryd.ntmps12
  go_upto_region 1 with fail
  rw [← HW0.out]
  have h0 : Var W0.drew w.heap.size 26 (rpvals x A1 n1 c1) ∧ Var W0.drew (w.heap.size + 1) 26 (rpvals y A2 n2 c2) := ⟨v0, v1⟩
  have b3 : Below w.heap.size w W0.drew := hbel.trans (Below.refl _ _).drew
  have x3 : RIn W0.drew B x A1 n1 c1 := hx0.below (Below.refl _ _).drew
  have y3 : RIn W0.drew B y A2 n2 c2 := hy0.below (Below.refl _ _).drew
  have HB3 : Hid (B ≤ W0.drew.heap.size) := Nat.le_trans hB b3.size
  clear v0 v1 hbel hx0 hy0
  refine wp_region_held_drew (S := fun w' => Var w' w.heap.size 26 (rpvals x A1 n1 c1) ∧ Var w' (w.heap.size + 1) 26 (rpvals y A2 n2 c2)) (by kernel_rfl) h0 (fun hHeld => ?_)
  generalize W0.drew = W3 at h0 b3 x3 y3 HB3 hHeld ⊢
  clear hHeld
  refine fld_takes [0, 2] _ 4 _ _ _ (by kernel_rfl) (fun _ d _ _ _ h => by cases d <;> exact h) (by rfl) (by kernel_rfl) (by assumption) ?_
  refine fld_taken (v := ?_) rfl (by rfl) (fun w' hw' => ?_) ?_
  rotate_left
  · refine exec_load_v (x := .tmp 2) ?_ ?_ hw'.1 Tryd.underlying26 rfl (by simp only [rpvals]; kernel_rfl) <;> rfl
  simp only [Act.put, List.getElem_toArray, List.getElem_cons_zero, List.setIfInBounds_toArray, List.set_cons_zero, List.set_cons_succ]
  refine fld_taken (v := ?_) rfl (by rfl) (fun w' hw' => ?_) ?_
  rotate_left
  · refine exec_load_v (x := .tmp 3) ?_ ?_ hw'.2 Tryd.underlying26 rfl (by simp only [rpvals]; kernel_rfl) <;> rfl
  simp only [Act.put, List.getElem_toArray, List.getElem_cons_succ, List.getElem_cons_zero, List.setIfInBounds_toArray, List.set_cons_zero, List.set_cons_succ]
  refine fld_taken_nil ?_
  refine fld_alone (i := 1) (by kernel_rfl) rfl (by rfl) (fun K hK => ?_)
  go_simp
  refine (plev_any x A1 n1 c1 B W3 x3 HB3.out h1).mono ?_
  rintro e W4 ⟨A3, c3, rfl, r3, hb4⟩
  have h4 : Var W4 w.heap.size 26 (rpvals x A1 n1 c1) ∧ Var W4 (w.heap.size + 1) 26 (rpvals y A2 n2 c2) := ⟨h0.1.below hb4 h0.1.lt, h0.2.below hb4 h0.2.lt⟩
  have b4 := b3.trans (hb4.mono b3.size)
  have y4 := y3.below (hb4.mono HB3.out)
  have HB4 : Hid (B ≤ W4.heap.size) := Nat.le_trans HB3.out hb4.size
  go_wp2_with fail
  refine hK.out _ _ h4 ?_
  clear hK K h0 b3 x3 y3 HB3 hb4
  refine fld_alone (i := 3) (by kernel_rfl) rfl (by rfl) (fun K hK => ?_)
  go_simp
  refine (plev_any y A2 n2 c2 B W4 y4 HB4.out h2).mono ?_
  rintro e W5 ⟨A4, c4, rfl, r4, hb5⟩
  have h5 : Var W5 w.heap.size 26 (rpvals x A1 n1 c1) ∧ Var W5 (w.heap.size + 1) 26 (rpvals y A2 n2 c2) := ⟨h4.1.below hb5 h4.1.lt, h4.2.below hb5 h4.2.lt⟩
  have b5 := b4.trans (hb5.mono b4.size)
  have r5 := (r3.below hb5).up hb5.size
  go_wp2_with fail
  refine hK.out _ _ h5 ?_
  clear hK K h4 b4 y4 HB4 hb5 r3
  refine fld_alone (i := 4) (by kernel_rfl) rfl (by rfl) (fun K hK => ?_)
  go_simp
  refine (psame_any (lev x) (lev y) A3 A4 n1 n2 c3 c4 W5.heap.size m W5 r5 r4 (Nat.le_refl _) HM.out).mono ?_
  rintro e W6 ⟨rfl, hb6⟩
  have h6 : Var W6 w.heap.size 26 (rpvals x A1 n1 c1) ∧ Var W6 (w.heap.size + 1) 26 (rpvals y A2 n2 c2) := ⟨h5.1.below hb6 h5.1.lt, h5.2.below hb6 h5.2.lt⟩
  have b6 := b5.trans (hb6.mono b5.size)
  go_wp2_with fail
  refine hK.out _ _ h6 ?_
  clear hK K h5 b5 hb6 r5 r4
  refine fld_takes [5] _ 0 _ _ _ (by kernel_rfl) (fun _ d _ _ _ h => by cases d <;> exact h) (by rfl) (by kernel_rfl) (by assumption) ?_
  refine fld_taken (v := ?_) rfl (by rfl) (fun w' hw' => ?_) ?_
  rotate_left
  · (go_simp <;> with_reducible rfl)
  simp only [Act.put, List.getElem_toArray, List.getElem_cons_succ, List.getElem_cons_zero, List.setIfInBounds_toArray, List.set_cons_zero, List.set_cons_succ]
  refine fld_taken_nil ?_
  refine wpAnyH_done (by kernel_rfl) ?_ _
  go_wp2
  go_ret
  exact ⟨rfl, b6⟩
end Go.Proofs.YtplpagnnlggfgaaDoor
