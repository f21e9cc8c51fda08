/-
  The walk over ReplyAlike. Conditions: the one package variable of errors holds what the program's text lays (Glob), and what a machine holds of the replies (RGot).
-/
import Derived.Test.YtplpagnnlggfgaaDoorRepBx
namespace Go.Proofs.YtplpagnnlggfgaaDoor
open Go.RowKit

theorem list_set_same {α : Type} {l : List α} {k : Nat} {x : α} (h : l[k]? = some x) : l.set k x = l := by
  refine List.ext_getElem? fun j => ?_
  rw [List.getElem?_set]
  by_cases hij : k = j
  · subst hij
    rw [if_pos rfl, if_pos (List.getElem?_eq_some_iff.1 h).1, h]
  · rw [if_neg hij]
def shI (by_ : Int) (n : Int) : Int := if 0 ≤ n then n + by_ else n
theorem levI_sh {by_ n : Int} (h : 0 < by_) : levI (shI by_ n) = levI n := by
  unfold levI shI
  by_cases h1 : 0 ≤ n
  · rw [if_pos h1, if_neg (by omega), if_neg (by omega)]
  · rw [if_neg h1]
def shR (by_ : Int) (r : Rw) : Rw := { r with off := shI by_ r.off }
theorem sh_step {by_ : Int} {l : List Rw} {k : Nat} {r : Rw} (h : l[k]? = some r) : (((l.take k).map (shR by_) ++ l.drop k).set k { r with off := shI by_ r.off }) = (l.take (k + 1)).map (shR by_) ++ l.drop (k + 1) := by
  have hk := (List.getElem?_eq_some_iff.1 h).1
  have hl : ((l.take k).map (shR by_)).length = k := by rw [List.length_map, List.length_take]; omega
  rw [List.set_append_right k _ (by omega), hl, Nat.sub_self, List.drop_eq_getElem_cons hk, List.set_cons_zero, List.take_add_one, h]
  rw [List.map_append, List.append_assoc]
  rfl
theorem sh_here {by_ : Int} {l : List Rw} {k : Nat} {r : Rw} (h : l[k]? = some r) : ((l.take k).map (shR by_) ++ l.drop k)[k]? = some r := by
  have hk := (List.getElem?_eq_some_iff.1 h).1
  rw [List.getElem?_append_right (by rw [List.length_map, List.length_take]; omega), List.length_map, List.length_take, List.getElem?_drop, show k + (k - min k l.length) = k by omega, h]
theorem sh_sizes {by_ : Int} {l : List Rw} (h : ∀ y ∈ l, y.k.size ≤ 9223372036854775807 ∧ y.v.size ≤ 9223372036854775807) : ∀ y ∈ l.map (shR by_), y.k.size ≤ 9223372036854775807 ∧ y.v.size ≤ 9223372036854775807 := by
  intro y hy
  obtain ⟨x, hx, rfl⟩ := List.mem_map.1 hy
  exact h x hx
theorem lev_sh {by_ : Int} (h : 0 < by_) (a : Rp) : lev a = lev { a with off := shI by_ a.off, rows := a.rows.map (shR by_) } := by
  unfold lev
  simp only [levI_sh h, List.map_map]
  congr 1
  refine List.map_congr_left fun r _ => ?_
  simp only [Function.comp, levR, shR, levI_sh h]

set_option maxRecDepth 100000 in
set_option maxHeartbeats 4000000 in
theorem alike_walk (a b c : Rp) (A1 A2 A3 : Option Addr) (n1 c1 n2 c2 n3 c3 : Nat) (d : Int) (w : World) (hG : Glob w) (ha : RGot w a A1 n1 c1) (hb : RGot w b A2 n2 c2) (hc : RGot w c A3 n3 c3) (hd : -9223372036854775808 ≤ d ∧ d ≤ 9223372036854775807) :
    Calls Tryd.prog 4 #[.agg (rpvals a A1 n1 c1), .agg (rpvals b A2 n2 c2), .agg (rpvals c A3 n3 c3), .int .i64 d] w (LawRes w) := by
  obtain ⟨W0, hW0⟩ : ∃ W0, W0 = ((w.alloc (.cells (rpvals a A1 n1 c1) 26)).alloc (.cells (rpvals b A2 n2 c2) 26)).alloc (.cells (rpvals c A3 n3 c3) 26) := ⟨_, rfl⟩
  obtain ⟨va, vb, vc⟩ := new3 w (rpvals a A1 n1 c1) (rpvals b A2 n2 c2) (rpvals c A3 n3 c3) 26 26 26
  have bb : Below w.heap.size w W0 := by rw [hW0]; exact (((Below.refl _ _).alloc (Nat.le_refl _) _).alloc (by simp) _).alloc (by simp; omega) _
  rw [← hW0] at va vb vc
  have xa : Bx W0 w.heap.size a A1 n1 c1 := ⟨va, ha.below bb⟩
  have xb : Bx W0 (w.heap.size + 1) b A2 n2 c2 := ⟨vb, hb.below bb⟩
  have xc : Bx W0 (w.heap.size + 1 + 1) c A3 n3 c3 := ⟨vc, hc.below bb⟩
  have gg := hG.next bb
  obtain ⟨ga, hga⟩ := mild_of a
  obtain ⟨gb, hgb⟩ := mild_of b
  obtain ⟨gc, hgc⟩ := mild_of c
  have HGA := Lib.hid hga
  have HGB := Lib.hid hgb
  have HGC := Lib.hid hgc
  obtain ⟨ok, hok⟩ := wrOk_of a
  have HOK := Lib.hid hok
  have HW0 := Lib.hid hW0
  obtain ⟨hd1, hd2⟩ := hd
  clear hW0 ha hb hc hG hga hgb hgc hok va vb vc
  simp only [rpvals] at HW0 ⊢
  go_enter Tryd.func4, Tryd.ntmps4
  go_upto_region 1 with fail
  rw [← HW0.out]
  clear HW0
  go_wp2_with (first | refine wpList_load_var rfl _ rfl Tryd.underlying26 rfl rfl xa.v (by simp only [rpvals]; kernel_rfl) ?_ | refine wpList_load_want (by rfl) _ rfl Tryd.underlying26 rfl rfl xa.v (by simp only [rpvals]; kernel_rfl) ?_)
  refine (pgreat_any a A1 n1 c1 _ ga W0 xa.r.rin (Nat.le_refl _) HGA.out).mono ?_
  rintro e W1 ⟨rfl, b1⟩
  have bb := bb.trans (b1.mono bb.size)
  have xa := xa.below b1
  have xb := xb.below b1
  have xc := xc.below b1
  have gg := gg.next b1
  clear b1
  rcases ga with _ | _
  rotate_left
  · go_wp2_with fail
    refine (pwakes_any _ gg).mono ?_
    rintro e V9 ⟨rfl, b9⟩
    have bz := bb.trans (b9.mono bb.size)
    go_wp2
    go_ret
    exact ⟨rfl, bz⟩
  go_wp2_with (first | refine wpList_load_var rfl _ rfl Tryd.underlying26 rfl rfl xb.v (by simp only [rpvals]; kernel_rfl) ?_ | refine wpList_load_want (by rfl) _ rfl Tryd.underlying26 rfl rfl xb.v (by simp only [rpvals]; kernel_rfl) ?_)
  refine (pgreat_any b A2 n2 c2 _ gb W1 xb.r.rin (Nat.le_refl _) HGB.out).mono ?_
  rintro e W2 ⟨rfl, b2⟩
  have bb := bb.trans (b2.mono bb.size)
  have xa := xa.below b2
  have xb := xb.below b2
  have xc := xc.below b2
  have gg := gg.next b2
  clear b2
  rcases gb with _ | _
  rotate_left
  · go_wp2_with fail
    refine (pwakes_any _ gg).mono ?_
    rintro e V9 ⟨rfl, b9⟩
    have bz := bb.trans (b9.mono bb.size)
    go_wp2
    go_ret
    exact ⟨rfl, bz⟩
  go_wp2_with (first | refine wpList_load_var rfl _ rfl Tryd.underlying26 rfl rfl xc.v (by simp only [rpvals]; kernel_rfl) ?_ | refine wpList_load_want (by rfl) _ rfl Tryd.underlying26 rfl rfl xc.v (by simp only [rpvals]; kernel_rfl) ?_)
  refine (pgreat_any c A3 n3 c3 _ gc W2 xc.r.rin (Nat.le_refl _) HGC.out).mono ?_
  rintro e W3 ⟨rfl, b3⟩
  have bb := bb.trans (b3.mono bb.size)
  have xa := xa.below b3
  have xb := xb.below b3
  have xc := xc.below b3
  have gg := gg.next b3
  clear b3
  rcases gc with _ | _
  rotate_left
  · go_wp2_with fail
    refine (pwakes_any _ gg).mono ?_
    rintro e V9 ⟨rfl, b9⟩
    have bz := bb.trans (b9.mono bb.size)
    go_wp2
    go_ret
    exact ⟨rfl, bz⟩
  by_cases hd3 : d < 1
  · have y1 : decide (d < 1) = true := by simpa using hd3
    go_wp2_with fail
    refine (pwakes_any _ gg).mono ?_
    rintro e V9 ⟨rfl, b9⟩
    have bz := bb.trans (b9.mono bb.size)
    go_wp2
    go_ret
    exact ⟨rfl, bz⟩
  by_cases hd4 : 1048576 < d
  · have y1 : decide (d < 1) = false := by simp; omega
    have y2 : decide ((1048576 : Int) < d) = true := by simpa using hd4
    go_wp2_with fail
    refine (pwakes_any _ gg).mono ?_
    rintro e V9 ⟨rfl, b9⟩
    have bz := bb.trans (b9.mono bb.size)
    go_wp2
    go_ret
    exact ⟨rfl, bz⟩
  have y1 : decide (d < 1) = false := by simp; omega
  have y2 : decide ((1048576 : Int) < d) = false := by simp; omega
  have hma := HGA.out.1 (by first | rfl | trivial)
  have hmb := HGB.out.1 (by first | rfl | trivial)
  have hmc := HGC.out.1 (by first | rfl | trivial)
  have ha1 : n1 ≤ 1000 := by have h1 := hma.1; have h2 := xa.r.rin.len; omega
  have hb1 : n2 ≤ 1000 := by have h1 := hmb.1; have h2 := xb.r.rin.len; omega
  have hc1 : n3 ≤ 1000 := by have h1 := hmc.1; have h2 := xc.r.rin.len; omega
  clear hma hmb hmc
  obtain ⟨m, hm⟩ := iff_of' (a = b)
  obtain ⟨l, hl⟩ := iff_of' (lev a = lev b)
  obtain ⟨q, hq⟩ := iff_of' (lev b = lev c)
  have HM := Lib.hid hm
  have HL := Lib.hid hl
  have HLS : Hid (l = true ↔ lev b = lev a) := ⟨fun h => (hl.1 h).symm, fun h => hl.2 h.symm⟩
  have HQ := Lib.hid hq
  clear hm hl hq
  go_upto_region 3 with fail
  go_cut [63] (fun s63 wx => s63 = .bool false ∧ Below W3.heap.size W3 wx)
  case first =>
    have h0 : Below W3.heap.size W3 W3.drew := (Below.refl _ _).drew
    refine wp_region_held_drew (S := fun w' => Below W3.heap.size W3 w') (by kernel_rfl) h0 (fun hHeld => ?_)
    generalize W3.drew = V0 at h0 hHeld ⊢
    clear hHeld
    have hway : (m = true ∧ l = true ∧ q = false) ∨ (m = true ∧ l = true ∧ q = true) ∨ (m = false ∧ l = false) ∨ (m = false ∧ l = true ∧ q = false) ∨ (m = false ∧ l = true ∧ q = true) := by
      have h1 : m = true → l = true := fun h => HL.out.2 (by rw [HM.out.1 h])
      rcases m with _ | _
      · rcases l with _ | _ <;> rcases q with _ | _ <;> simp
      · rw [h1 rfl]
        rcases q with _ | _ <;> simp
    rcases hway with ⟨rfl, rfl, rfl⟩ | ⟨rfl, rfl, rfl⟩ | ⟨rfl, rfl⟩ | ⟨rfl, rfl, rfl⟩ | ⟨rfl, rfl, rfl⟩
    · refine fld_takes [0, 1] _ 32 _ _ _ (by kernel_rfl) (fun _ d _ _ _ h => by cases d <;> exact h) (by rfl) (by kernel_rfl) (by assumption) ?_
      refine fld_taken (v := ?_) rfl (by rfl) (fun w' hw' => ?_) ?_
      rotate_left
      · (refine exec_load_v (x := .tmp 4) ?_ ?_ (xa.v.below hw' xa.v.lt) Tryd.underlying26 rfl (by simp only [rpvals]; kernel_rfl) <;> rfl)
      simp only [Act.put, List.getElem_toArray, List.getElem_cons_zero, List.setIfInBounds_toArray, List.set_cons_zero, List.set_cons_succ]
      refine fld_taken (v := ?_) rfl (by rfl) (fun w' hw' => ?_) ?_
      rotate_left
      · (refine exec_load_v (x := .tmp 5) ?_ ?_ (xb.v.below hw' xb.v.lt) Tryd.underlying26 rfl (by simp only [rpvals]; kernel_rfl) <;> rfl)
      simp only [Act.put, List.getElem_toArray, List.getElem_cons_succ, List.getElem_cons_zero, List.setIfInBounds_toArray, List.set_cons_zero, List.set_cons_succ]
      refine fld_taken_nil ?_
      refine fld_alone (i := 2) (by kernel_rfl) rfl (by rfl) (fun K hK => ?_)
      go_simp
      refine (psame_any a b A1 A2 n1 n2 c1 c2 W3.heap.size true V0 (xa.r.rin.below h0) (xb.r.rin.below h0) h0.size (by simpa using HM.out)).mono ?_
      rintro e V1 ⟨rfl, b9⟩
      have h1 := h0.trans (b9.mono h0.size)
      clear b9
      go_wp2_with fail
      refine hK.out _ _ h1 ?_
      clear hK K
      refine fld_takes [3, 4, 5] _ 28 _ _ _ (by kernel_rfl) (fun _ d _ _ _ h => by cases d <;> exact h) (by rfl) (by kernel_rfl) (by assumption) ?_
      refine fld_taken (v := ?_) rfl (by rfl) (fun w' hw' => ?_) ?_
      rotate_left
      · (go_simp <;> with_reducible rfl)
      simp only [Act.put, List.getElem_toArray, List.getElem_cons_succ, List.getElem_cons_zero, List.setIfInBounds_toArray, List.set_cons_zero, List.set_cons_succ]
      refine fld_taken (v := ?_) rfl (by rfl) (fun w' hw' => ?_) ?_
      rotate_left
      · (refine exec_load_v (x := .tmp 4) ?_ ?_ (xa.v.below hw' xa.v.lt) Tryd.underlying26 rfl (by simp only [rpvals]; kernel_rfl) <;> rfl)
      simp only [Act.put, List.getElem_toArray, List.getElem_cons_succ, List.getElem_cons_zero, List.setIfInBounds_toArray, List.set_cons_zero, List.set_cons_succ]
      refine fld_taken (v := ?_) rfl (by rfl) (fun w' hw' => ?_) ?_
      rotate_left
      · (refine exec_load_v (x := .tmp 5) ?_ ?_ (xb.v.below hw' xb.v.lt) Tryd.underlying26 rfl (by simp only [rpvals]; kernel_rfl) <;> rfl)
      simp only [Act.put, List.getElem_toArray, List.getElem_cons_succ, List.getElem_cons_zero, List.setIfInBounds_toArray, List.set_cons_zero, List.set_cons_succ]
      refine fld_taken_nil ?_
      refine fld_alone (i := 6) (by kernel_rfl) rfl (by rfl) (fun K hK => ?_)
      go_simp
      refine (alike_any a b A1 A2 n1 n2 c1 c2 W3.heap.size true V1 (xa.r.rin.below h1) (xb.r.rin.below h1) h1.size ha1 hb1 (by simpa using HL.out)).mono ?_
      rintro e V2 ⟨rfl, b9⟩
      have h2 := h1.trans (b9.mono h1.size)
      clear b9
      go_wp2_with fail
      refine hK.out _ _ h2 ?_
      clear hK K
      refine fld_takes [7, 8, 9, 10, 11, 13, 14] _ 20 _ _ _ (by kernel_rfl) (fun _ d _ _ _ h => by cases d <;> exact h) (by rfl) (by kernel_rfl) (by assumption) ?_
      refine fld_taken (v := ?_) rfl (by rfl) (fun w' hw' => ?_) ?_
      rotate_left
      · (go_simp <;> with_reducible rfl)
      simp only [Act.put, List.getElem_toArray, List.getElem_cons_succ, List.getElem_cons_zero, List.setIfInBounds_toArray, List.set_cons_zero, List.set_cons_succ]
      refine fld_taken (v := ?_) rfl (by rfl) (fun w' hw' => ?_) ?_
      rotate_left
      · (go_simp <;> with_reducible rfl)
      simp only [Act.put, List.getElem_toArray, List.getElem_cons_succ, List.getElem_cons_zero, List.setIfInBounds_toArray, List.set_cons_zero, List.set_cons_succ]
      refine fld_taken (v := ?_) rfl (by rfl) (fun w' hw' => ?_) ?_
      rotate_left
      · (go_simp <;> with_reducible rfl)
      simp only [Act.put, List.getElem_toArray, List.getElem_cons_succ, List.getElem_cons_zero, List.setIfInBounds_toArray, List.set_cons_zero, List.set_cons_succ]
      refine fld_taken (v := ?_) rfl (by rfl) (fun w' hw' => ?_) ?_
      rotate_left
      · (refine exec_load_v (x := .tmp 4) ?_ ?_ (xa.v.below hw' xa.v.lt) Tryd.underlying26 rfl (by simp only [rpvals]; kernel_rfl) <;> rfl)
      simp only [Act.put, List.getElem_toArray, List.getElem_cons_succ, List.getElem_cons_zero, List.setIfInBounds_toArray, List.set_cons_zero, List.set_cons_succ]
      refine fld_taken (v := ?_) rfl (by rfl) (fun w' hw' => ?_) ?_
      rotate_left
      · (refine exec_load_v (x := .tmp 5) ?_ ?_ (xb.v.below hw' xb.v.lt) Tryd.underlying26 rfl (by simp only [rpvals]; kernel_rfl) <;> rfl)
      simp only [Act.put, List.getElem_toArray, List.getElem_cons_succ, List.getElem_cons_zero, List.setIfInBounds_toArray, List.set_cons_zero, List.set_cons_succ]
      refine fld_taken (v := ?_) rfl (by rfl) (fun w' hw' => ?_) ?_
      rotate_left
      · (refine exec_load_v (x := .tmp 5) ?_ ?_ (xb.v.below hw' xb.v.lt) Tryd.underlying26 rfl (by simp only [rpvals]; kernel_rfl) <;> rfl)
      simp only [Act.put, List.getElem_toArray, List.getElem_cons_succ, List.getElem_cons_zero, List.setIfInBounds_toArray, List.set_cons_zero, List.set_cons_succ]
      refine fld_taken (v := ?_) rfl (by rfl) (fun w' hw' => ?_) ?_
      rotate_left
      · (refine exec_load_v (x := .tmp 4) ?_ ?_ (xa.v.below hw' xa.v.lt) Tryd.underlying26 rfl (by simp only [rpvals]; kernel_rfl) <;> rfl)
      simp only [Act.put, List.getElem_toArray, List.getElem_cons_succ, List.getElem_cons_zero, List.setIfInBounds_toArray, List.set_cons_zero, List.set_cons_succ]
      refine fld_taken_nil ?_
      refine fld_alone (i := 12) (by kernel_rfl) rfl (by rfl) (fun K hK => ?_)
      go_simp
      refine (alike_any a b A1 A2 n1 n2 c1 c2 W3.heap.size true V2 (xa.r.rin.below h2) (xb.r.rin.below h2) h2.size ha1 hb1 (by simpa using HL.out)).mono ?_
      rintro e V3 ⟨rfl, b9⟩
      have h3 := h2.trans (b9.mono h2.size)
      clear b9
      go_wp2_with fail
      refine hK.out _ _ h3 ?_
      clear hK K
      refine fld_alone (i := 15) (by kernel_rfl) rfl (by rfl) (fun K hK => ?_)
      go_simp
      refine (alike_any b a A2 A1 n2 n1 c2 c1 W3.heap.size true V3 (xb.r.rin.below h3) (xa.r.rin.below h3) h3.size hb1 ha1 (by simpa using HLS.out)).mono ?_
      rintro e V4 ⟨rfl, b9⟩
      have h4 := h3.trans (b9.mono h3.size)
      clear b9
      go_wp2_with fail
      refine hK.out _ _ h4 ?_
      clear hK K
      refine fld_takes [16, 17, 18, 19, 20] _ 13 _ _ _ (by kernel_rfl) (fun _ d _ _ _ h => by cases d <;> exact h) (by rfl) (by kernel_rfl) (by assumption) ?_
      refine fld_taken (v := ?_) rfl (by rfl) (fun w' hw' => ?_) ?_
      rotate_left
      · (go_simp <;> with_reducible rfl)
      simp only [Act.put, List.getElem_toArray, List.getElem_cons_succ, List.getElem_cons_zero, List.setIfInBounds_toArray, List.set_cons_zero, List.set_cons_succ]
      refine fld_taken (v := ?_) rfl (by rfl) (fun w' hw' => ?_) ?_
      rotate_left
      · (go_simp <;> with_reducible rfl)
      simp only [Act.put, List.getElem_toArray, List.getElem_cons_succ, List.getElem_cons_zero, List.setIfInBounds_toArray, List.set_cons_zero, List.set_cons_succ]
      refine fld_taken (v := ?_) rfl (by rfl) (fun w' hw' => ?_) ?_
      rotate_left
      · (go_simp <;> with_reducible rfl)
      simp only [Act.put, List.getElem_toArray, List.getElem_cons_succ, List.getElem_cons_zero, List.setIfInBounds_toArray, List.set_cons_zero, List.set_cons_succ]
      refine fld_taken (v := ?_) rfl (by rfl) (fun w' hw' => ?_) ?_
      rotate_left
      · (refine exec_load_v (x := .tmp 4) ?_ ?_ (xa.v.below hw' xa.v.lt) Tryd.underlying26 rfl (by simp only [rpvals]; kernel_rfl) <;> rfl)
      simp only [Act.put, List.getElem_toArray, List.getElem_cons_succ, List.getElem_cons_zero, List.setIfInBounds_toArray, List.set_cons_zero, List.set_cons_succ]
      refine fld_taken (v := ?_) rfl (by rfl) (fun w' hw' => ?_) ?_
      rotate_left
      · (refine exec_load_v (x := .tmp 5) ?_ ?_ (xb.v.below hw' xb.v.lt) Tryd.underlying26 rfl (by simp only [rpvals]; kernel_rfl) <;> rfl)
      simp only [Act.put, List.getElem_toArray, List.getElem_cons_succ, List.getElem_cons_zero, List.setIfInBounds_toArray, List.set_cons_zero, List.set_cons_succ]
      refine fld_taken_nil ?_
      refine fld_alone (i := 21) (by kernel_rfl) rfl (by rfl) (fun K hK => ?_)
      go_simp
      refine (alike_any a b A1 A2 n1 n2 c1 c2 W3.heap.size true V4 (xa.r.rin.below h4) (xb.r.rin.below h4) h4.size ha1 hb1 (by simpa using HL.out)).mono ?_
      rintro e V5 ⟨rfl, b9⟩
      have h5 := h4.trans (b9.mono h4.size)
      clear b9
      go_wp2_with fail
      refine hK.out _ _ h5 ?_
      clear hK K
      refine fld_takes [22, 23, 24] _ 9 _ _ _ (by kernel_rfl) (fun _ d _ _ _ h => by cases d <;> exact h) (by rfl) (by kernel_rfl) (by assumption) ?_
      refine fld_taken (v := ?_) rfl (by rfl) (fun w' hw' => ?_) ?_
      rotate_left
      · (go_simp <;> with_reducible rfl)
      simp only [Act.put, List.getElem_toArray, List.getElem_cons_succ, List.getElem_cons_zero, List.setIfInBounds_toArray, List.set_cons_zero, List.set_cons_succ]
      refine fld_taken (v := ?_) rfl (by rfl) (fun w' hw' => ?_) ?_
      rotate_left
      · (refine exec_load_v (x := .tmp 5) ?_ ?_ (xb.v.below hw' xb.v.lt) Tryd.underlying26 rfl (by simp only [rpvals]; kernel_rfl) <;> rfl)
      simp only [Act.put, List.getElem_toArray, List.getElem_cons_succ, List.getElem_cons_zero, List.setIfInBounds_toArray, List.set_cons_zero, List.set_cons_succ]
      refine fld_taken (v := ?_) rfl (by rfl) (fun w' hw' => ?_) ?_
      rotate_left
      · (refine exec_load_v (x := .tmp 6) ?_ ?_ (xc.v.below hw' xc.v.lt) Tryd.underlying26 rfl (by simp only [rpvals]; kernel_rfl) <;> rfl)
      simp only [Act.put, List.getElem_toArray, List.getElem_cons_succ, List.getElem_cons_zero, List.setIfInBounds_toArray, List.set_cons_zero, List.set_cons_succ]
      refine fld_taken_nil ?_
      refine fld_alone (i := 25) (by kernel_rfl) rfl (by rfl) (fun K hK => ?_)
      go_simp
      refine (alike_any b c A2 A3 n2 n3 c2 c3 W3.heap.size false V5 (xb.r.rin.below h5) (xc.r.rin.below h5) h5.size hb1 hc1 (by simpa using HQ.out)).mono ?_
      rintro e V6 ⟨rfl, b9⟩
      have h6 := h5.trans (b9.mono h5.size)
      clear b9
      go_wp2_with fail
      refine hK.out _ _ h6 ?_
      clear hK K
      refine fld_takes [26, 27, 28, 29, 30, 31, 32, 33] _ 0 _ _ _ (by kernel_rfl) (fun _ d _ _ _ h => by cases d <;> exact h) (by rfl) (by kernel_rfl) (by assumption) ?_
      refine fld_taken (v := ?_) rfl (by rfl) (fun w' hw' => ?_) ?_
      rotate_left
      · (go_simp <;> with_reducible rfl)
      simp only [Act.put, List.getElem_toArray, List.getElem_cons_succ, List.getElem_cons_zero, List.setIfInBounds_toArray, List.set_cons_zero, List.set_cons_succ]
      refine fld_taken (v := ?_) rfl (by rfl) (fun w' hw' => ?_) ?_
      rotate_left
      · (go_simp <;> with_reducible rfl)
      simp only [Act.put, List.getElem_toArray, List.getElem_cons_succ, List.getElem_cons_zero, List.setIfInBounds_toArray, List.set_cons_zero, List.set_cons_succ]
      refine fld_skipped rfl (by rfl) ?_
      simp only [Act.put, List.getElem_toArray, List.getElem_cons_succ, List.getElem_cons_zero, List.setIfInBounds_toArray, List.set_cons_zero, List.set_cons_succ]
      refine fld_skipped rfl (by rfl) ?_
      simp only [Act.put, List.getElem_toArray, List.getElem_cons_succ, List.getElem_cons_zero, List.setIfInBounds_toArray, List.set_cons_zero, List.set_cons_succ]
      refine fld_skipped rfl (by rfl) ?_
      simp only [Act.put, List.getElem_toArray, List.getElem_cons_succ, List.getElem_cons_zero, List.setIfInBounds_toArray, List.set_cons_zero, List.set_cons_succ]
      refine fld_skipped rfl (by rfl) ?_
      simp only [Act.put, List.getElem_toArray, List.getElem_cons_succ, List.getElem_cons_zero, List.setIfInBounds_toArray, List.set_cons_zero, List.set_cons_succ]
      refine fld_taken (v := ?_) rfl (by rfl) (fun w' hw' => ?_) ?_
      rotate_left
      · (go_simp <;> with_reducible rfl)
      simp only [Act.put, List.getElem_toArray, List.getElem_cons_succ, List.getElem_cons_zero, List.setIfInBounds_toArray, List.set_cons_zero, List.set_cons_succ]
      refine fld_taken (v := ?_) rfl (by rfl) (fun w' hw' => ?_) ?_
      rotate_left
      · (go_simp <;> with_reducible rfl)
      simp only [Act.put, List.getElem_toArray, List.getElem_cons_succ, List.getElem_cons_zero, List.setIfInBounds_toArray, List.set_cons_zero, List.set_cons_succ]
      refine fld_taken_nil ?_
      refine wpAnyH_done (by kernel_rfl) ?_ _
      go_wp2_with fail
      go_meet
      exact ⟨rfl, h6⟩
    · refine fld_takes [0, 1] _ 32 _ _ _ (by kernel_rfl) (fun _ d _ _ _ h => by cases d <;> exact h) (by rfl) (by kernel_rfl) (by assumption) ?_
      refine fld_taken (v := ?_) rfl (by rfl) (fun w' hw' => ?_) ?_
      rotate_left
      · (refine exec_load_v (x := .tmp 4) ?_ ?_ (xa.v.below hw' xa.v.lt) Tryd.underlying26 rfl (by simp only [rpvals]; kernel_rfl) <;> rfl)
      simp only [Act.put, List.getElem_toArray, List.getElem_cons_zero, List.setIfInBounds_toArray, List.set_cons_zero, List.set_cons_succ]
      refine fld_taken (v := ?_) rfl (by rfl) (fun w' hw' => ?_) ?_
      rotate_left
      · (refine exec_load_v (x := .tmp 5) ?_ ?_ (xb.v.below hw' xb.v.lt) Tryd.underlying26 rfl (by simp only [rpvals]; kernel_rfl) <;> rfl)
      simp only [Act.put, List.getElem_toArray, List.getElem_cons_succ, List.getElem_cons_zero, List.setIfInBounds_toArray, List.set_cons_zero, List.set_cons_succ]
      refine fld_taken_nil ?_
      refine fld_alone (i := 2) (by kernel_rfl) rfl (by rfl) (fun K hK => ?_)
      go_simp
      refine (psame_any a b A1 A2 n1 n2 c1 c2 W3.heap.size true V0 (xa.r.rin.below h0) (xb.r.rin.below h0) h0.size (by simpa using HM.out)).mono ?_
      rintro e V1 ⟨rfl, b9⟩
      have h1 := h0.trans (b9.mono h0.size)
      clear b9
      go_wp2_with fail
      refine hK.out _ _ h1 ?_
      clear hK K
      refine fld_takes [3, 4, 5] _ 28 _ _ _ (by kernel_rfl) (fun _ d _ _ _ h => by cases d <;> exact h) (by rfl) (by kernel_rfl) (by assumption) ?_
      refine fld_taken (v := ?_) rfl (by rfl) (fun w' hw' => ?_) ?_
      rotate_left
      · (go_simp <;> with_reducible rfl)
      simp only [Act.put, List.getElem_toArray, List.getElem_cons_succ, List.getElem_cons_zero, List.setIfInBounds_toArray, List.set_cons_zero, List.set_cons_succ]
      refine fld_taken (v := ?_) rfl (by rfl) (fun w' hw' => ?_) ?_
      rotate_left
      · (refine exec_load_v (x := .tmp 4) ?_ ?_ (xa.v.below hw' xa.v.lt) Tryd.underlying26 rfl (by simp only [rpvals]; kernel_rfl) <;> rfl)
      simp only [Act.put, List.getElem_toArray, List.getElem_cons_succ, List.getElem_cons_zero, List.setIfInBounds_toArray, List.set_cons_zero, List.set_cons_succ]
      refine fld_taken (v := ?_) rfl (by rfl) (fun w' hw' => ?_) ?_
      rotate_left
      · (refine exec_load_v (x := .tmp 5) ?_ ?_ (xb.v.below hw' xb.v.lt) Tryd.underlying26 rfl (by simp only [rpvals]; kernel_rfl) <;> rfl)
      simp only [Act.put, List.getElem_toArray, List.getElem_cons_succ, List.getElem_cons_zero, List.setIfInBounds_toArray, List.set_cons_zero, List.set_cons_succ]
      refine fld_taken_nil ?_
      refine fld_alone (i := 6) (by kernel_rfl) rfl (by rfl) (fun K hK => ?_)
      go_simp
      refine (alike_any a b A1 A2 n1 n2 c1 c2 W3.heap.size true V1 (xa.r.rin.below h1) (xb.r.rin.below h1) h1.size ha1 hb1 (by simpa using HL.out)).mono ?_
      rintro e V2 ⟨rfl, b9⟩
      have h2 := h1.trans (b9.mono h1.size)
      clear b9
      go_wp2_with fail
      refine hK.out _ _ h2 ?_
      clear hK K
      refine fld_takes [7, 8, 9, 10, 11, 13, 14] _ 20 _ _ _ (by kernel_rfl) (fun _ d _ _ _ h => by cases d <;> exact h) (by rfl) (by kernel_rfl) (by assumption) ?_
      refine fld_taken (v := ?_) rfl (by rfl) (fun w' hw' => ?_) ?_
      rotate_left
      · (go_simp <;> with_reducible rfl)
      simp only [Act.put, List.getElem_toArray, List.getElem_cons_succ, List.getElem_cons_zero, List.setIfInBounds_toArray, List.set_cons_zero, List.set_cons_succ]
      refine fld_taken (v := ?_) rfl (by rfl) (fun w' hw' => ?_) ?_
      rotate_left
      · (go_simp <;> with_reducible rfl)
      simp only [Act.put, List.getElem_toArray, List.getElem_cons_succ, List.getElem_cons_zero, List.setIfInBounds_toArray, List.set_cons_zero, List.set_cons_succ]
      refine fld_taken (v := ?_) rfl (by rfl) (fun w' hw' => ?_) ?_
      rotate_left
      · (go_simp <;> with_reducible rfl)
      simp only [Act.put, List.getElem_toArray, List.getElem_cons_succ, List.getElem_cons_zero, List.setIfInBounds_toArray, List.set_cons_zero, List.set_cons_succ]
      refine fld_taken (v := ?_) rfl (by rfl) (fun w' hw' => ?_) ?_
      rotate_left
      · (refine exec_load_v (x := .tmp 4) ?_ ?_ (xa.v.below hw' xa.v.lt) Tryd.underlying26 rfl (by simp only [rpvals]; kernel_rfl) <;> rfl)
      simp only [Act.put, List.getElem_toArray, List.getElem_cons_succ, List.getElem_cons_zero, List.setIfInBounds_toArray, List.set_cons_zero, List.set_cons_succ]
      refine fld_taken (v := ?_) rfl (by rfl) (fun w' hw' => ?_) ?_
      rotate_left
      · (refine exec_load_v (x := .tmp 5) ?_ ?_ (xb.v.below hw' xb.v.lt) Tryd.underlying26 rfl (by simp only [rpvals]; kernel_rfl) <;> rfl)
      simp only [Act.put, List.getElem_toArray, List.getElem_cons_succ, List.getElem_cons_zero, List.setIfInBounds_toArray, List.set_cons_zero, List.set_cons_succ]
      refine fld_taken (v := ?_) rfl (by rfl) (fun w' hw' => ?_) ?_
      rotate_left
      · (refine exec_load_v (x := .tmp 5) ?_ ?_ (xb.v.below hw' xb.v.lt) Tryd.underlying26 rfl (by simp only [rpvals]; kernel_rfl) <;> rfl)
      simp only [Act.put, List.getElem_toArray, List.getElem_cons_succ, List.getElem_cons_zero, List.setIfInBounds_toArray, List.set_cons_zero, List.set_cons_succ]
      refine fld_taken (v := ?_) rfl (by rfl) (fun w' hw' => ?_) ?_
      rotate_left
      · (refine exec_load_v (x := .tmp 4) ?_ ?_ (xa.v.below hw' xa.v.lt) Tryd.underlying26 rfl (by simp only [rpvals]; kernel_rfl) <;> rfl)
      simp only [Act.put, List.getElem_toArray, List.getElem_cons_succ, List.getElem_cons_zero, List.setIfInBounds_toArray, List.set_cons_zero, List.set_cons_succ]
      refine fld_taken_nil ?_
      refine fld_alone (i := 12) (by kernel_rfl) rfl (by rfl) (fun K hK => ?_)
      go_simp
      refine (alike_any a b A1 A2 n1 n2 c1 c2 W3.heap.size true V2 (xa.r.rin.below h2) (xb.r.rin.below h2) h2.size ha1 hb1 (by simpa using HL.out)).mono ?_
      rintro e V3 ⟨rfl, b9⟩
      have h3 := h2.trans (b9.mono h2.size)
      clear b9
      go_wp2_with fail
      refine hK.out _ _ h3 ?_
      clear hK K
      refine fld_alone (i := 15) (by kernel_rfl) rfl (by rfl) (fun K hK => ?_)
      go_simp
      refine (alike_any b a A2 A1 n2 n1 c2 c1 W3.heap.size true V3 (xb.r.rin.below h3) (xa.r.rin.below h3) h3.size hb1 ha1 (by simpa using HLS.out)).mono ?_
      rintro e V4 ⟨rfl, b9⟩
      have h4 := h3.trans (b9.mono h3.size)
      clear b9
      go_wp2_with fail
      refine hK.out _ _ h4 ?_
      clear hK K
      refine fld_takes [16, 17, 18, 19, 20] _ 13 _ _ _ (by kernel_rfl) (fun _ d _ _ _ h => by cases d <;> exact h) (by rfl) (by kernel_rfl) (by assumption) ?_
      refine fld_taken (v := ?_) rfl (by rfl) (fun w' hw' => ?_) ?_
      rotate_left
      · (go_simp <;> with_reducible rfl)
      simp only [Act.put, List.getElem_toArray, List.getElem_cons_succ, List.getElem_cons_zero, List.setIfInBounds_toArray, List.set_cons_zero, List.set_cons_succ]
      refine fld_taken (v := ?_) rfl (by rfl) (fun w' hw' => ?_) ?_
      rotate_left
      · (go_simp <;> with_reducible rfl)
      simp only [Act.put, List.getElem_toArray, List.getElem_cons_succ, List.getElem_cons_zero, List.setIfInBounds_toArray, List.set_cons_zero, List.set_cons_succ]
      refine fld_taken (v := ?_) rfl (by rfl) (fun w' hw' => ?_) ?_
      rotate_left
      · (go_simp <;> with_reducible rfl)
      simp only [Act.put, List.getElem_toArray, List.getElem_cons_succ, List.getElem_cons_zero, List.setIfInBounds_toArray, List.set_cons_zero, List.set_cons_succ]
      refine fld_taken (v := ?_) rfl (by rfl) (fun w' hw' => ?_) ?_
      rotate_left
      · (refine exec_load_v (x := .tmp 4) ?_ ?_ (xa.v.below hw' xa.v.lt) Tryd.underlying26 rfl (by simp only [rpvals]; kernel_rfl) <;> rfl)
      simp only [Act.put, List.getElem_toArray, List.getElem_cons_succ, List.getElem_cons_zero, List.setIfInBounds_toArray, List.set_cons_zero, List.set_cons_succ]
      refine fld_taken (v := ?_) rfl (by rfl) (fun w' hw' => ?_) ?_
      rotate_left
      · (refine exec_load_v (x := .tmp 5) ?_ ?_ (xb.v.below hw' xb.v.lt) Tryd.underlying26 rfl (by simp only [rpvals]; kernel_rfl) <;> rfl)
      simp only [Act.put, List.getElem_toArray, List.getElem_cons_succ, List.getElem_cons_zero, List.setIfInBounds_toArray, List.set_cons_zero, List.set_cons_succ]
      refine fld_taken_nil ?_
      refine fld_alone (i := 21) (by kernel_rfl) rfl (by rfl) (fun K hK => ?_)
      go_simp
      refine (alike_any a b A1 A2 n1 n2 c1 c2 W3.heap.size true V4 (xa.r.rin.below h4) (xb.r.rin.below h4) h4.size ha1 hb1 (by simpa using HL.out)).mono ?_
      rintro e V5 ⟨rfl, b9⟩
      have h5 := h4.trans (b9.mono h4.size)
      clear b9
      go_wp2_with fail
      refine hK.out _ _ h5 ?_
      clear hK K
      refine fld_takes [22, 23, 24] _ 9 _ _ _ (by kernel_rfl) (fun _ d _ _ _ h => by cases d <;> exact h) (by rfl) (by kernel_rfl) (by assumption) ?_
      refine fld_taken (v := ?_) rfl (by rfl) (fun w' hw' => ?_) ?_
      rotate_left
      · (go_simp <;> with_reducible rfl)
      simp only [Act.put, List.getElem_toArray, List.getElem_cons_succ, List.getElem_cons_zero, List.setIfInBounds_toArray, List.set_cons_zero, List.set_cons_succ]
      refine fld_taken (v := ?_) rfl (by rfl) (fun w' hw' => ?_) ?_
      rotate_left
      · (refine exec_load_v (x := .tmp 5) ?_ ?_ (xb.v.below hw' xb.v.lt) Tryd.underlying26 rfl (by simp only [rpvals]; kernel_rfl) <;> rfl)
      simp only [Act.put, List.getElem_toArray, List.getElem_cons_succ, List.getElem_cons_zero, List.setIfInBounds_toArray, List.set_cons_zero, List.set_cons_succ]
      refine fld_taken (v := ?_) rfl (by rfl) (fun w' hw' => ?_) ?_
      rotate_left
      · (refine exec_load_v (x := .tmp 6) ?_ ?_ (xc.v.below hw' xc.v.lt) Tryd.underlying26 rfl (by simp only [rpvals]; kernel_rfl) <;> rfl)
      simp only [Act.put, List.getElem_toArray, List.getElem_cons_succ, List.getElem_cons_zero, List.setIfInBounds_toArray, List.set_cons_zero, List.set_cons_succ]
      refine fld_taken_nil ?_
      refine fld_alone (i := 25) (by kernel_rfl) rfl (by rfl) (fun K hK => ?_)
      go_simp
      refine (alike_any b c A2 A3 n2 n3 c2 c3 W3.heap.size true V5 (xb.r.rin.below h5) (xc.r.rin.below h5) h5.size hb1 hc1 (by simpa using HQ.out)).mono ?_
      rintro e V6 ⟨rfl, b9⟩
      have h6 := h5.trans (b9.mono h5.size)
      clear b9
      go_wp2_with fail
      refine hK.out _ _ h6 ?_
      clear hK K
      refine fld_takes [26, 27, 28, 29] _ 4 _ _ _ (by kernel_rfl) (fun _ d _ _ _ h => by cases d <;> exact h) (by rfl) (by kernel_rfl) (by assumption) ?_
      refine fld_taken (v := ?_) rfl (by rfl) (fun w' hw' => ?_) ?_
      rotate_left
      · (go_simp <;> with_reducible rfl)
      simp only [Act.put, List.getElem_toArray, List.getElem_cons_succ, List.getElem_cons_zero, List.setIfInBounds_toArray, List.set_cons_zero, List.set_cons_succ]
      refine fld_taken (v := ?_) rfl (by rfl) (fun w' hw' => ?_) ?_
      rotate_left
      · (go_simp <;> with_reducible rfl)
      simp only [Act.put, List.getElem_toArray, List.getElem_cons_succ, List.getElem_cons_zero, List.setIfInBounds_toArray, List.set_cons_zero, List.set_cons_succ]
      refine fld_taken (v := ?_) rfl (by rfl) (fun w' hw' => ?_) ?_
      rotate_left
      · (refine exec_load_v (x := .tmp 4) ?_ ?_ (xa.v.below hw' xa.v.lt) Tryd.underlying26 rfl (by simp only [rpvals]; kernel_rfl) <;> rfl)
      simp only [Act.put, List.getElem_toArray, List.getElem_cons_succ, List.getElem_cons_zero, List.setIfInBounds_toArray, List.set_cons_zero, List.set_cons_succ]
      refine fld_taken (v := ?_) rfl (by rfl) (fun w' hw' => ?_) ?_
      rotate_left
      · (refine exec_load_v (x := .tmp 6) ?_ ?_ (xc.v.below hw' xc.v.lt) Tryd.underlying26 rfl (by simp only [rpvals]; kernel_rfl) <;> rfl)
      simp only [Act.put, List.getElem_toArray, List.getElem_cons_succ, List.getElem_cons_zero, List.setIfInBounds_toArray, List.set_cons_zero, List.set_cons_succ]
      refine fld_taken_nil ?_
      refine fld_alone (i := 30) (by kernel_rfl) rfl (by rfl) (fun K hK => ?_)
      go_simp
      refine (alike_any a c A1 A3 n1 n3 c1 c3 W3.heap.size true V6 (xa.r.rin.below h6) (xc.r.rin.below h6) h6.size ha1 hc1 ⟨fun _ => (HL.out.1 (by first | rfl | trivial)).trans (HQ.out.1 (by first | rfl | trivial)), fun _ => rfl⟩).mono ?_
      rintro e V7 ⟨rfl, b9⟩
      have h7 := h6.trans (b9.mono h6.size)
      clear b9
      go_wp2_with fail
      refine hK.out _ _ h7 ?_
      clear hK K
      refine fld_takes [31, 32, 33] _ 0 _ _ _ (by kernel_rfl) (fun _ d _ _ _ h => by cases d <;> exact h) (by rfl) (by kernel_rfl) (by assumption) ?_
      refine fld_taken (v := ?_) rfl (by rfl) (fun w' hw' => ?_) ?_
      rotate_left
      · (go_simp <;> with_reducible rfl)
      simp only [Act.put, List.getElem_toArray, List.getElem_cons_succ, List.getElem_cons_zero, List.setIfInBounds_toArray, List.set_cons_zero, List.set_cons_succ]
      refine fld_taken (v := ?_) rfl (by rfl) (fun w' hw' => ?_) ?_
      rotate_left
      · (go_simp <;> with_reducible rfl)
      simp only [Act.put, List.getElem_toArray, List.getElem_cons_succ, List.getElem_cons_zero, List.setIfInBounds_toArray, List.set_cons_zero, List.set_cons_succ]
      refine fld_taken (v := ?_) rfl (by rfl) (fun w' hw' => ?_) ?_
      rotate_left
      · (go_simp <;> with_reducible rfl)
      simp only [Act.put, List.getElem_toArray, List.getElem_cons_succ, List.getElem_cons_zero, List.setIfInBounds_toArray, List.set_cons_zero, List.set_cons_succ]
      refine fld_taken_nil ?_
      refine wpAnyH_done (by kernel_rfl) ?_ _
      go_wp2_with fail
      go_meet
      exact ⟨rfl, h7⟩
    · refine fld_takes [0, 1] _ 32 _ _ _ (by kernel_rfl) (fun _ d _ _ _ h => by cases d <;> exact h) (by rfl) (by kernel_rfl) (by assumption) ?_
      refine fld_taken (v := ?_) rfl (by rfl) (fun w' hw' => ?_) ?_
      rotate_left
      · (refine exec_load_v (x := .tmp 4) ?_ ?_ (xa.v.below hw' xa.v.lt) Tryd.underlying26 rfl (by simp only [rpvals]; kernel_rfl) <;> rfl)
      simp only [Act.put, List.getElem_toArray, List.getElem_cons_zero, List.setIfInBounds_toArray, List.set_cons_zero, List.set_cons_succ]
      refine fld_taken (v := ?_) rfl (by rfl) (fun w' hw' => ?_) ?_
      rotate_left
      · (refine exec_load_v (x := .tmp 5) ?_ ?_ (xb.v.below hw' xb.v.lt) Tryd.underlying26 rfl (by simp only [rpvals]; kernel_rfl) <;> rfl)
      simp only [Act.put, List.getElem_toArray, List.getElem_cons_succ, List.getElem_cons_zero, List.setIfInBounds_toArray, List.set_cons_zero, List.set_cons_succ]
      refine fld_taken_nil ?_
      refine fld_alone (i := 2) (by kernel_rfl) rfl (by rfl) (fun K hK => ?_)
      go_simp
      refine (psame_any a b A1 A2 n1 n2 c1 c2 W3.heap.size false V0 (xa.r.rin.below h0) (xb.r.rin.below h0) h0.size (by simpa using HM.out)).mono ?_
      rintro e V1 ⟨rfl, b9⟩
      have h1 := h0.trans (b9.mono h0.size)
      clear b9
      go_wp2_with fail
      refine hK.out _ _ h1 ?_
      clear hK K
      refine fld_takes [3, 4, 5, 6, 7, 8, 9, 10, 11, 13, 14] _ 20 _ _ _ (by kernel_rfl) (fun _ d _ _ _ h => by cases d <;> exact h) (by rfl) (by kernel_rfl) (by assumption) ?_
      refine fld_taken (v := ?_) rfl (by rfl) (fun w' hw' => ?_) ?_
      rotate_left
      · (go_simp <;> with_reducible rfl)
      simp only [Act.put, List.getElem_toArray, List.getElem_cons_succ, List.getElem_cons_zero, List.setIfInBounds_toArray, List.set_cons_zero, List.set_cons_succ]
      refine fld_skipped rfl (by rfl) ?_
      simp only [Act.put, List.getElem_toArray, List.getElem_cons_succ, List.getElem_cons_zero, List.setIfInBounds_toArray, List.set_cons_zero, List.set_cons_succ]
      refine fld_skipped rfl (by rfl) ?_
      simp only [Act.put, List.getElem_toArray, List.getElem_cons_succ, List.getElem_cons_zero, List.setIfInBounds_toArray, List.set_cons_zero, List.set_cons_succ]
      refine fld_skipped rfl (by rfl) ?_
      simp only [Act.put, List.getElem_toArray, List.getElem_cons_succ, List.getElem_cons_zero, List.setIfInBounds_toArray, List.set_cons_zero, List.set_cons_succ]
      refine fld_skipped rfl (by rfl) ?_
      simp only [Act.put, List.getElem_toArray, List.getElem_cons_succ, List.getElem_cons_zero, List.setIfInBounds_toArray, List.set_cons_zero, List.set_cons_succ]
      refine fld_taken (v := ?_) rfl (by rfl) (fun w' hw' => ?_) ?_
      rotate_left
      · (go_simp <;> with_reducible rfl)
      simp only [Act.put, List.getElem_toArray, List.getElem_cons_succ, List.getElem_cons_zero, List.setIfInBounds_toArray, List.set_cons_zero, List.set_cons_succ]
      refine fld_taken (v := ?_) rfl (by rfl) (fun w' hw' => ?_) ?_
      rotate_left
      · (go_simp <;> with_reducible rfl)
      simp only [Act.put, List.getElem_toArray, List.getElem_cons_succ, List.getElem_cons_zero, List.setIfInBounds_toArray, List.set_cons_zero, List.set_cons_succ]
      refine fld_taken (v := ?_) rfl (by rfl) (fun w' hw' => ?_) ?_
      rotate_left
      · (refine exec_load_v (x := .tmp 4) ?_ ?_ (xa.v.below hw' xa.v.lt) Tryd.underlying26 rfl (by simp only [rpvals]; kernel_rfl) <;> rfl)
      simp only [Act.put, List.getElem_toArray, List.getElem_cons_succ, List.getElem_cons_zero, List.setIfInBounds_toArray, List.set_cons_zero, List.set_cons_succ]
      refine fld_taken (v := ?_) rfl (by rfl) (fun w' hw' => ?_) ?_
      rotate_left
      · (refine exec_load_v (x := .tmp 5) ?_ ?_ (xb.v.below hw' xb.v.lt) Tryd.underlying26 rfl (by simp only [rpvals]; kernel_rfl) <;> rfl)
      simp only [Act.put, List.getElem_toArray, List.getElem_cons_succ, List.getElem_cons_zero, List.setIfInBounds_toArray, List.set_cons_zero, List.set_cons_succ]
      refine fld_taken (v := ?_) rfl (by rfl) (fun w' hw' => ?_) ?_
      rotate_left
      · (refine exec_load_v (x := .tmp 5) ?_ ?_ (xb.v.below hw' xb.v.lt) Tryd.underlying26 rfl (by simp only [rpvals]; kernel_rfl) <;> rfl)
      simp only [Act.put, List.getElem_toArray, List.getElem_cons_succ, List.getElem_cons_zero, List.setIfInBounds_toArray, List.set_cons_zero, List.set_cons_succ]
      refine fld_taken (v := ?_) rfl (by rfl) (fun w' hw' => ?_) ?_
      rotate_left
      · (refine exec_load_v (x := .tmp 4) ?_ ?_ (xa.v.below hw' xa.v.lt) Tryd.underlying26 rfl (by simp only [rpvals]; kernel_rfl) <;> rfl)
      simp only [Act.put, List.getElem_toArray, List.getElem_cons_succ, List.getElem_cons_zero, List.setIfInBounds_toArray, List.set_cons_zero, List.set_cons_succ]
      refine fld_taken_nil ?_
      refine fld_alone (i := 12) (by kernel_rfl) rfl (by rfl) (fun K hK => ?_)
      go_simp
      refine (alike_any a b A1 A2 n1 n2 c1 c2 W3.heap.size false V1 (xa.r.rin.below h1) (xb.r.rin.below h1) h1.size ha1 hb1 (by simpa using HL.out)).mono ?_
      rintro e V2 ⟨rfl, b9⟩
      have h2 := h1.trans (b9.mono h1.size)
      clear b9
      go_wp2_with fail
      refine hK.out _ _ h2 ?_
      clear hK K
      refine fld_alone (i := 15) (by kernel_rfl) rfl (by rfl) (fun K hK => ?_)
      go_simp
      refine (alike_any b a A2 A1 n2 n1 c2 c1 W3.heap.size false V2 (xb.r.rin.below h2) (xa.r.rin.below h2) h2.size hb1 ha1 (by simpa using HLS.out)).mono ?_
      rintro e V3 ⟨rfl, b9⟩
      have h3 := h2.trans (b9.mono h2.size)
      clear b9
      go_wp2_with fail
      refine hK.out _ _ h3 ?_
      clear hK K
      refine fld_takes [16, 17, 18, 19, 20] _ 13 _ _ _ (by kernel_rfl) (fun _ d _ _ _ h => by cases d <;> exact h) (by rfl) (by kernel_rfl) (by assumption) ?_
      refine fld_taken (v := ?_) rfl (by rfl) (fun w' hw' => ?_) ?_
      rotate_left
      · (go_simp <;> with_reducible rfl)
      simp only [Act.put, List.getElem_toArray, List.getElem_cons_succ, List.getElem_cons_zero, List.setIfInBounds_toArray, List.set_cons_zero, List.set_cons_succ]
      refine fld_taken (v := ?_) rfl (by rfl) (fun w' hw' => ?_) ?_
      rotate_left
      · (go_simp <;> with_reducible rfl)
      simp only [Act.put, List.getElem_toArray, List.getElem_cons_succ, List.getElem_cons_zero, List.setIfInBounds_toArray, List.set_cons_zero, List.set_cons_succ]
      refine fld_taken (v := ?_) rfl (by rfl) (fun w' hw' => ?_) ?_
      rotate_left
      · (go_simp <;> with_reducible rfl)
      simp only [Act.put, List.getElem_toArray, List.getElem_cons_succ, List.getElem_cons_zero, List.setIfInBounds_toArray, List.set_cons_zero, List.set_cons_succ]
      refine fld_taken (v := ?_) rfl (by rfl) (fun w' hw' => ?_) ?_
      rotate_left
      · (refine exec_load_v (x := .tmp 4) ?_ ?_ (xa.v.below hw' xa.v.lt) Tryd.underlying26 rfl (by simp only [rpvals]; kernel_rfl) <;> rfl)
      simp only [Act.put, List.getElem_toArray, List.getElem_cons_succ, List.getElem_cons_zero, List.setIfInBounds_toArray, List.set_cons_zero, List.set_cons_succ]
      refine fld_taken (v := ?_) rfl (by rfl) (fun w' hw' => ?_) ?_
      rotate_left
      · (refine exec_load_v (x := .tmp 5) ?_ ?_ (xb.v.below hw' xb.v.lt) Tryd.underlying26 rfl (by simp only [rpvals]; kernel_rfl) <;> rfl)
      simp only [Act.put, List.getElem_toArray, List.getElem_cons_succ, List.getElem_cons_zero, List.setIfInBounds_toArray, List.set_cons_zero, List.set_cons_succ]
      refine fld_taken_nil ?_
      refine fld_alone (i := 21) (by kernel_rfl) rfl (by rfl) (fun K hK => ?_)
      go_simp
      refine (alike_any a b A1 A2 n1 n2 c1 c2 W3.heap.size false V3 (xa.r.rin.below h3) (xb.r.rin.below h3) h3.size ha1 hb1 (by simpa using HL.out)).mono ?_
      rintro e V4 ⟨rfl, b9⟩
      have h4 := h3.trans (b9.mono h3.size)
      clear b9
      go_wp2_with fail
      refine hK.out _ _ h4 ?_
      clear hK K
      refine fld_takes [22, 23, 24, 25, 26, 27, 28, 29, 30, 31, 32, 33] _ 0 _ _ _ (by kernel_rfl) (fun _ d _ _ _ h => by cases d <;> exact h) (by rfl) (by kernel_rfl) (by assumption) ?_
      refine fld_taken (v := ?_) rfl (by rfl) (fun w' hw' => ?_) ?_
      rotate_left
      · (go_simp <;> with_reducible rfl)
      simp only [Act.put, List.getElem_toArray, List.getElem_cons_succ, List.getElem_cons_zero, List.setIfInBounds_toArray, List.set_cons_zero, List.set_cons_succ]
      refine fld_skipped rfl (by rfl) ?_
      simp only [Act.put, List.getElem_toArray, List.getElem_cons_succ, List.getElem_cons_zero, List.setIfInBounds_toArray, List.set_cons_zero, List.set_cons_succ]
      refine fld_skipped rfl (by rfl) ?_
      simp only [Act.put, List.getElem_toArray, List.getElem_cons_succ, List.getElem_cons_zero, List.setIfInBounds_toArray, List.set_cons_zero, List.set_cons_succ]
      refine fld_skipped rfl (by rfl) ?_
      simp only [Act.put, List.getElem_toArray, List.getElem_cons_succ, List.getElem_cons_zero, List.setIfInBounds_toArray, List.set_cons_zero, List.set_cons_succ]
      refine fld_taken (v := ?_) rfl (by rfl) (fun w' hw' => ?_) ?_
      rotate_left
      · (go_simp <;> with_reducible rfl)
      simp only [Act.put, List.getElem_toArray, List.getElem_cons_succ, List.getElem_cons_zero, List.setIfInBounds_toArray, List.set_cons_zero, List.set_cons_succ]
      refine fld_taken (v := ?_) rfl (by rfl) (fun w' hw' => ?_) ?_
      rotate_left
      · (go_simp <;> with_reducible rfl)
      simp only [Act.put, List.getElem_toArray, List.getElem_cons_succ, List.getElem_cons_zero, List.setIfInBounds_toArray, List.set_cons_zero, List.set_cons_succ]
      refine fld_skipped rfl (by rfl) ?_
      simp only [Act.put, List.getElem_toArray, List.getElem_cons_succ, List.getElem_cons_zero, List.setIfInBounds_toArray, List.set_cons_zero, List.set_cons_succ]
      refine fld_skipped rfl (by rfl) ?_
      simp only [Act.put, List.getElem_toArray, List.getElem_cons_succ, List.getElem_cons_zero, List.setIfInBounds_toArray, List.set_cons_zero, List.set_cons_succ]
      refine fld_skipped rfl (by rfl) ?_
      simp only [Act.put, List.getElem_toArray, List.getElem_cons_succ, List.getElem_cons_zero, List.setIfInBounds_toArray, List.set_cons_zero, List.set_cons_succ]
      refine fld_skipped rfl (by rfl) ?_
      simp only [Act.put, List.getElem_toArray, List.getElem_cons_succ, List.getElem_cons_zero, List.setIfInBounds_toArray, List.set_cons_zero, List.set_cons_succ]
      refine fld_taken (v := ?_) rfl (by rfl) (fun w' hw' => ?_) ?_
      rotate_left
      · (go_simp <;> with_reducible rfl)
      simp only [Act.put, List.getElem_toArray, List.getElem_cons_succ, List.getElem_cons_zero, List.setIfInBounds_toArray, List.set_cons_zero, List.set_cons_succ]
      refine fld_taken (v := ?_) rfl (by rfl) (fun w' hw' => ?_) ?_
      rotate_left
      · (go_simp <;> with_reducible rfl)
      simp only [Act.put, List.getElem_toArray, List.getElem_cons_succ, List.getElem_cons_zero, List.setIfInBounds_toArray, List.set_cons_zero, List.set_cons_succ]
      refine fld_taken_nil ?_
      refine wpAnyH_done (by kernel_rfl) ?_ _
      go_wp2_with fail
      go_meet
      exact ⟨rfl, h4⟩
    · refine fld_takes [0, 1] _ 32 _ _ _ (by kernel_rfl) (fun _ d _ _ _ h => by cases d <;> exact h) (by rfl) (by kernel_rfl) (by assumption) ?_
      refine fld_taken (v := ?_) rfl (by rfl) (fun w' hw' => ?_) ?_
      rotate_left
      · (refine exec_load_v (x := .tmp 4) ?_ ?_ (xa.v.below hw' xa.v.lt) Tryd.underlying26 rfl (by simp only [rpvals]; kernel_rfl) <;> rfl)
      simp only [Act.put, List.getElem_toArray, List.getElem_cons_zero, List.setIfInBounds_toArray, List.set_cons_zero, List.set_cons_succ]
      refine fld_taken (v := ?_) rfl (by rfl) (fun w' hw' => ?_) ?_
      rotate_left
      · (refine exec_load_v (x := .tmp 5) ?_ ?_ (xb.v.below hw' xb.v.lt) Tryd.underlying26 rfl (by simp only [rpvals]; kernel_rfl) <;> rfl)
      simp only [Act.put, List.getElem_toArray, List.getElem_cons_succ, List.getElem_cons_zero, List.setIfInBounds_toArray, List.set_cons_zero, List.set_cons_succ]
      refine fld_taken_nil ?_
      refine fld_alone (i := 2) (by kernel_rfl) rfl (by rfl) (fun K hK => ?_)
      go_simp
      refine (psame_any a b A1 A2 n1 n2 c1 c2 W3.heap.size false V0 (xa.r.rin.below h0) (xb.r.rin.below h0) h0.size (by simpa using HM.out)).mono ?_
      rintro e V1 ⟨rfl, b9⟩
      have h1 := h0.trans (b9.mono h0.size)
      clear b9
      go_wp2_with fail
      refine hK.out _ _ h1 ?_
      clear hK K
      refine fld_takes [3, 4, 5, 6, 7, 8, 9, 10, 11, 13, 14] _ 20 _ _ _ (by kernel_rfl) (fun _ d _ _ _ h => by cases d <;> exact h) (by rfl) (by kernel_rfl) (by assumption) ?_
      refine fld_taken (v := ?_) rfl (by rfl) (fun w' hw' => ?_) ?_
      rotate_left
      · (go_simp <;> with_reducible rfl)
      simp only [Act.put, List.getElem_toArray, List.getElem_cons_succ, List.getElem_cons_zero, List.setIfInBounds_toArray, List.set_cons_zero, List.set_cons_succ]
      refine fld_skipped rfl (by rfl) ?_
      simp only [Act.put, List.getElem_toArray, List.getElem_cons_succ, List.getElem_cons_zero, List.setIfInBounds_toArray, List.set_cons_zero, List.set_cons_succ]
      refine fld_skipped rfl (by rfl) ?_
      simp only [Act.put, List.getElem_toArray, List.getElem_cons_succ, List.getElem_cons_zero, List.setIfInBounds_toArray, List.set_cons_zero, List.set_cons_succ]
      refine fld_skipped rfl (by rfl) ?_
      simp only [Act.put, List.getElem_toArray, List.getElem_cons_succ, List.getElem_cons_zero, List.setIfInBounds_toArray, List.set_cons_zero, List.set_cons_succ]
      refine fld_skipped rfl (by rfl) ?_
      simp only [Act.put, List.getElem_toArray, List.getElem_cons_succ, List.getElem_cons_zero, List.setIfInBounds_toArray, List.set_cons_zero, List.set_cons_succ]
      refine fld_taken (v := ?_) rfl (by rfl) (fun w' hw' => ?_) ?_
      rotate_left
      · (go_simp <;> with_reducible rfl)
      simp only [Act.put, List.getElem_toArray, List.getElem_cons_succ, List.getElem_cons_zero, List.setIfInBounds_toArray, List.set_cons_zero, List.set_cons_succ]
      refine fld_taken (v := ?_) rfl (by rfl) (fun w' hw' => ?_) ?_
      rotate_left
      · (go_simp <;> with_reducible rfl)
      simp only [Act.put, List.getElem_toArray, List.getElem_cons_succ, List.getElem_cons_zero, List.setIfInBounds_toArray, List.set_cons_zero, List.set_cons_succ]
      refine fld_taken (v := ?_) rfl (by rfl) (fun w' hw' => ?_) ?_
      rotate_left
      · (refine exec_load_v (x := .tmp 4) ?_ ?_ (xa.v.below hw' xa.v.lt) Tryd.underlying26 rfl (by simp only [rpvals]; kernel_rfl) <;> rfl)
      simp only [Act.put, List.getElem_toArray, List.getElem_cons_succ, List.getElem_cons_zero, List.setIfInBounds_toArray, List.set_cons_zero, List.set_cons_succ]
      refine fld_taken (v := ?_) rfl (by rfl) (fun w' hw' => ?_) ?_
      rotate_left
      · (refine exec_load_v (x := .tmp 5) ?_ ?_ (xb.v.below hw' xb.v.lt) Tryd.underlying26 rfl (by simp only [rpvals]; kernel_rfl) <;> rfl)
      simp only [Act.put, List.getElem_toArray, List.getElem_cons_succ, List.getElem_cons_zero, List.setIfInBounds_toArray, List.set_cons_zero, List.set_cons_succ]
      refine fld_taken (v := ?_) rfl (by rfl) (fun w' hw' => ?_) ?_
      rotate_left
      · (refine exec_load_v (x := .tmp 5) ?_ ?_ (xb.v.below hw' xb.v.lt) Tryd.underlying26 rfl (by simp only [rpvals]; kernel_rfl) <;> rfl)
      simp only [Act.put, List.getElem_toArray, List.getElem_cons_succ, List.getElem_cons_zero, List.setIfInBounds_toArray, List.set_cons_zero, List.set_cons_succ]
      refine fld_taken (v := ?_) rfl (by rfl) (fun w' hw' => ?_) ?_
      rotate_left
      · (refine exec_load_v (x := .tmp 4) ?_ ?_ (xa.v.below hw' xa.v.lt) Tryd.underlying26 rfl (by simp only [rpvals]; kernel_rfl) <;> rfl)
      simp only [Act.put, List.getElem_toArray, List.getElem_cons_succ, List.getElem_cons_zero, List.setIfInBounds_toArray, List.set_cons_zero, List.set_cons_succ]
      refine fld_taken_nil ?_
      refine fld_alone (i := 12) (by kernel_rfl) rfl (by rfl) (fun K hK => ?_)
      go_simp
      refine (alike_any a b A1 A2 n1 n2 c1 c2 W3.heap.size true V1 (xa.r.rin.below h1) (xb.r.rin.below h1) h1.size ha1 hb1 (by simpa using HL.out)).mono ?_
      rintro e V2 ⟨rfl, b9⟩
      have h2 := h1.trans (b9.mono h1.size)
      clear b9
      go_wp2_with fail
      refine hK.out _ _ h2 ?_
      clear hK K
      refine fld_alone (i := 15) (by kernel_rfl) rfl (by rfl) (fun K hK => ?_)
      go_simp
      refine (alike_any b a A2 A1 n2 n1 c2 c1 W3.heap.size true V2 (xb.r.rin.below h2) (xa.r.rin.below h2) h2.size hb1 ha1 (by simpa using HLS.out)).mono ?_
      rintro e V3 ⟨rfl, b9⟩
      have h3 := h2.trans (b9.mono h2.size)
      clear b9
      go_wp2_with fail
      refine hK.out _ _ h3 ?_
      clear hK K
      refine fld_takes [16, 17, 18, 19, 20] _ 13 _ _ _ (by kernel_rfl) (fun _ d _ _ _ h => by cases d <;> exact h) (by rfl) (by kernel_rfl) (by assumption) ?_
      refine fld_taken (v := ?_) rfl (by rfl) (fun w' hw' => ?_) ?_
      rotate_left
      · (go_simp <;> with_reducible rfl)
      simp only [Act.put, List.getElem_toArray, List.getElem_cons_succ, List.getElem_cons_zero, List.setIfInBounds_toArray, List.set_cons_zero, List.set_cons_succ]
      refine fld_taken (v := ?_) rfl (by rfl) (fun w' hw' => ?_) ?_
      rotate_left
      · (go_simp <;> with_reducible rfl)
      simp only [Act.put, List.getElem_toArray, List.getElem_cons_succ, List.getElem_cons_zero, List.setIfInBounds_toArray, List.set_cons_zero, List.set_cons_succ]
      refine fld_taken (v := ?_) rfl (by rfl) (fun w' hw' => ?_) ?_
      rotate_left
      · (go_simp <;> with_reducible rfl)
      simp only [Act.put, List.getElem_toArray, List.getElem_cons_succ, List.getElem_cons_zero, List.setIfInBounds_toArray, List.set_cons_zero, List.set_cons_succ]
      refine fld_taken (v := ?_) rfl (by rfl) (fun w' hw' => ?_) ?_
      rotate_left
      · (refine exec_load_v (x := .tmp 4) ?_ ?_ (xa.v.below hw' xa.v.lt) Tryd.underlying26 rfl (by simp only [rpvals]; kernel_rfl) <;> rfl)
      simp only [Act.put, List.getElem_toArray, List.getElem_cons_succ, List.getElem_cons_zero, List.setIfInBounds_toArray, List.set_cons_zero, List.set_cons_succ]
      refine fld_taken (v := ?_) rfl (by rfl) (fun w' hw' => ?_) ?_
      rotate_left
      · (refine exec_load_v (x := .tmp 5) ?_ ?_ (xb.v.below hw' xb.v.lt) Tryd.underlying26 rfl (by simp only [rpvals]; kernel_rfl) <;> rfl)
      simp only [Act.put, List.getElem_toArray, List.getElem_cons_succ, List.getElem_cons_zero, List.setIfInBounds_toArray, List.set_cons_zero, List.set_cons_succ]
      refine fld_taken_nil ?_
      refine fld_alone (i := 21) (by kernel_rfl) rfl (by rfl) (fun K hK => ?_)
      go_simp
      refine (alike_any a b A1 A2 n1 n2 c1 c2 W3.heap.size true V3 (xa.r.rin.below h3) (xb.r.rin.below h3) h3.size ha1 hb1 (by simpa using HL.out)).mono ?_
      rintro e V4 ⟨rfl, b9⟩
      have h4 := h3.trans (b9.mono h3.size)
      clear b9
      go_wp2_with fail
      refine hK.out _ _ h4 ?_
      clear hK K
      refine fld_takes [22, 23, 24] _ 9 _ _ _ (by kernel_rfl) (fun _ d _ _ _ h => by cases d <;> exact h) (by rfl) (by kernel_rfl) (by assumption) ?_
      refine fld_taken (v := ?_) rfl (by rfl) (fun w' hw' => ?_) ?_
      rotate_left
      · (go_simp <;> with_reducible rfl)
      simp only [Act.put, List.getElem_toArray, List.getElem_cons_succ, List.getElem_cons_zero, List.setIfInBounds_toArray, List.set_cons_zero, List.set_cons_succ]
      refine fld_taken (v := ?_) rfl (by rfl) (fun w' hw' => ?_) ?_
      rotate_left
      · (refine exec_load_v (x := .tmp 5) ?_ ?_ (xb.v.below hw' xb.v.lt) Tryd.underlying26 rfl (by simp only [rpvals]; kernel_rfl) <;> rfl)
      simp only [Act.put, List.getElem_toArray, List.getElem_cons_succ, List.getElem_cons_zero, List.setIfInBounds_toArray, List.set_cons_zero, List.set_cons_succ]
      refine fld_taken (v := ?_) rfl (by rfl) (fun w' hw' => ?_) ?_
      rotate_left
      · (refine exec_load_v (x := .tmp 6) ?_ ?_ (xc.v.below hw' xc.v.lt) Tryd.underlying26 rfl (by simp only [rpvals]; kernel_rfl) <;> rfl)
      simp only [Act.put, List.getElem_toArray, List.getElem_cons_succ, List.getElem_cons_zero, List.setIfInBounds_toArray, List.set_cons_zero, List.set_cons_succ]
      refine fld_taken_nil ?_
      refine fld_alone (i := 25) (by kernel_rfl) rfl (by rfl) (fun K hK => ?_)
      go_simp
      refine (alike_any b c A2 A3 n2 n3 c2 c3 W3.heap.size false V4 (xb.r.rin.below h4) (xc.r.rin.below h4) h4.size hb1 hc1 (by simpa using HQ.out)).mono ?_
      rintro e V5 ⟨rfl, b9⟩
      have h5 := h4.trans (b9.mono h4.size)
      clear b9
      go_wp2_with fail
      refine hK.out _ _ h5 ?_
      clear hK K
      refine fld_takes [26, 27, 28, 29, 30, 31, 32, 33] _ 0 _ _ _ (by kernel_rfl) (fun _ d _ _ _ h => by cases d <;> exact h) (by rfl) (by kernel_rfl) (by assumption) ?_
      refine fld_taken (v := ?_) rfl (by rfl) (fun w' hw' => ?_) ?_
      rotate_left
      · (go_simp <;> with_reducible rfl)
      simp only [Act.put, List.getElem_toArray, List.getElem_cons_succ, List.getElem_cons_zero, List.setIfInBounds_toArray, List.set_cons_zero, List.set_cons_succ]
      refine fld_taken (v := ?_) rfl (by rfl) (fun w' hw' => ?_) ?_
      rotate_left
      · (go_simp <;> with_reducible rfl)
      simp only [Act.put, List.getElem_toArray, List.getElem_cons_succ, List.getElem_cons_zero, List.setIfInBounds_toArray, List.set_cons_zero, List.set_cons_succ]
      refine fld_skipped rfl (by rfl) ?_
      simp only [Act.put, List.getElem_toArray, List.getElem_cons_succ, List.getElem_cons_zero, List.setIfInBounds_toArray, List.set_cons_zero, List.set_cons_succ]
      refine fld_skipped rfl (by rfl) ?_
      simp only [Act.put, List.getElem_toArray, List.getElem_cons_succ, List.getElem_cons_zero, List.setIfInBounds_toArray, List.set_cons_zero, List.set_cons_succ]
      refine fld_skipped rfl (by rfl) ?_
      simp only [Act.put, List.getElem_toArray, List.getElem_cons_succ, List.getElem_cons_zero, List.setIfInBounds_toArray, List.set_cons_zero, List.set_cons_succ]
      refine fld_skipped rfl (by rfl) ?_
      simp only [Act.put, List.getElem_toArray, List.getElem_cons_succ, List.getElem_cons_zero, List.setIfInBounds_toArray, List.set_cons_zero, List.set_cons_succ]
      refine fld_taken (v := ?_) rfl (by rfl) (fun w' hw' => ?_) ?_
      rotate_left
      · (go_simp <;> with_reducible rfl)
      simp only [Act.put, List.getElem_toArray, List.getElem_cons_succ, List.getElem_cons_zero, List.setIfInBounds_toArray, List.set_cons_zero, List.set_cons_succ]
      refine fld_taken (v := ?_) rfl (by rfl) (fun w' hw' => ?_) ?_
      rotate_left
      · (go_simp <;> with_reducible rfl)
      simp only [Act.put, List.getElem_toArray, List.getElem_cons_succ, List.getElem_cons_zero, List.setIfInBounds_toArray, List.set_cons_zero, List.set_cons_succ]
      refine fld_taken_nil ?_
      refine wpAnyH_done (by kernel_rfl) ?_ _
      go_wp2_with fail
      go_meet
      exact ⟨rfl, h5⟩
    · refine fld_takes [0, 1] _ 32 _ _ _ (by kernel_rfl) (fun _ d _ _ _ h => by cases d <;> exact h) (by rfl) (by kernel_rfl) (by assumption) ?_
      refine fld_taken (v := ?_) rfl (by rfl) (fun w' hw' => ?_) ?_
      rotate_left
      · (refine exec_load_v (x := .tmp 4) ?_ ?_ (xa.v.below hw' xa.v.lt) Tryd.underlying26 rfl (by simp only [rpvals]; kernel_rfl) <;> rfl)
      simp only [Act.put, List.getElem_toArray, List.getElem_cons_zero, List.setIfInBounds_toArray, List.set_cons_zero, List.set_cons_succ]
      refine fld_taken (v := ?_) rfl (by rfl) (fun w' hw' => ?_) ?_
      rotate_left
      · (refine exec_load_v (x := .tmp 5) ?_ ?_ (xb.v.below hw' xb.v.lt) Tryd.underlying26 rfl (by simp only [rpvals]; kernel_rfl) <;> rfl)
      simp only [Act.put, List.getElem_toArray, List.getElem_cons_succ, List.getElem_cons_zero, List.setIfInBounds_toArray, List.set_cons_zero, List.set_cons_succ]
      refine fld_taken_nil ?_
      refine fld_alone (i := 2) (by kernel_rfl) rfl (by rfl) (fun K hK => ?_)
      go_simp
      refine (psame_any a b A1 A2 n1 n2 c1 c2 W3.heap.size false V0 (xa.r.rin.below h0) (xb.r.rin.below h0) h0.size (by simpa using HM.out)).mono ?_
      rintro e V1 ⟨rfl, b9⟩
      have h1 := h0.trans (b9.mono h0.size)
      clear b9
      go_wp2_with fail
      refine hK.out _ _ h1 ?_
      clear hK K
      refine fld_takes [3, 4, 5, 6, 7, 8, 9, 10, 11, 13, 14] _ 20 _ _ _ (by kernel_rfl) (fun _ d _ _ _ h => by cases d <;> exact h) (by rfl) (by kernel_rfl) (by assumption) ?_
      refine fld_taken (v := ?_) rfl (by rfl) (fun w' hw' => ?_) ?_
      rotate_left
      · (go_simp <;> with_reducible rfl)
      simp only [Act.put, List.getElem_toArray, List.getElem_cons_succ, List.getElem_cons_zero, List.setIfInBounds_toArray, List.set_cons_zero, List.set_cons_succ]
      refine fld_skipped rfl (by rfl) ?_
      simp only [Act.put, List.getElem_toArray, List.getElem_cons_succ, List.getElem_cons_zero, List.setIfInBounds_toArray, List.set_cons_zero, List.set_cons_succ]
      refine fld_skipped rfl (by rfl) ?_
      simp only [Act.put, List.getElem_toArray, List.getElem_cons_succ, List.getElem_cons_zero, List.setIfInBounds_toArray, List.set_cons_zero, List.set_cons_succ]
      refine fld_skipped rfl (by rfl) ?_
      simp only [Act.put, List.getElem_toArray, List.getElem_cons_succ, List.getElem_cons_zero, List.setIfInBounds_toArray, List.set_cons_zero, List.set_cons_succ]
      refine fld_skipped rfl (by rfl) ?_
      simp only [Act.put, List.getElem_toArray, List.getElem_cons_succ, List.getElem_cons_zero, List.setIfInBounds_toArray, List.set_cons_zero, List.set_cons_succ]
      refine fld_taken (v := ?_) rfl (by rfl) (fun w' hw' => ?_) ?_
      rotate_left
      · (go_simp <;> with_reducible rfl)
      simp only [Act.put, List.getElem_toArray, List.getElem_cons_succ, List.getElem_cons_zero, List.setIfInBounds_toArray, List.set_cons_zero, List.set_cons_succ]
      refine fld_taken (v := ?_) rfl (by rfl) (fun w' hw' => ?_) ?_
      rotate_left
      · (go_simp <;> with_reducible rfl)
      simp only [Act.put, List.getElem_toArray, List.getElem_cons_succ, List.getElem_cons_zero, List.setIfInBounds_toArray, List.set_cons_zero, List.set_cons_succ]
      refine fld_taken (v := ?_) rfl (by rfl) (fun w' hw' => ?_) ?_
      rotate_left
      · (refine exec_load_v (x := .tmp 4) ?_ ?_ (xa.v.below hw' xa.v.lt) Tryd.underlying26 rfl (by simp only [rpvals]; kernel_rfl) <;> rfl)
      simp only [Act.put, List.getElem_toArray, List.getElem_cons_succ, List.getElem_cons_zero, List.setIfInBounds_toArray, List.set_cons_zero, List.set_cons_succ]
      refine fld_taken (v := ?_) rfl (by rfl) (fun w' hw' => ?_) ?_
      rotate_left
      · (refine exec_load_v (x := .tmp 5) ?_ ?_ (xb.v.below hw' xb.v.lt) Tryd.underlying26 rfl (by simp only [rpvals]; kernel_rfl) <;> rfl)
      simp only [Act.put, List.getElem_toArray, List.getElem_cons_succ, List.getElem_cons_zero, List.setIfInBounds_toArray, List.set_cons_zero, List.set_cons_succ]
      refine fld_taken (v := ?_) rfl (by rfl) (fun w' hw' => ?_) ?_
      rotate_left
      · (refine exec_load_v (x := .tmp 5) ?_ ?_ (xb.v.below hw' xb.v.lt) Tryd.underlying26 rfl (by simp only [rpvals]; kernel_rfl) <;> rfl)
      simp only [Act.put, List.getElem_toArray, List.getElem_cons_succ, List.getElem_cons_zero, List.setIfInBounds_toArray, List.set_cons_zero, List.set_cons_succ]
      refine fld_taken (v := ?_) rfl (by rfl) (fun w' hw' => ?_) ?_
      rotate_left
      · (refine exec_load_v (x := .tmp 4) ?_ ?_ (xa.v.below hw' xa.v.lt) Tryd.underlying26 rfl (by simp only [rpvals]; kernel_rfl) <;> rfl)
      simp only [Act.put, List.getElem_toArray, List.getElem_cons_succ, List.getElem_cons_zero, List.setIfInBounds_toArray, List.set_cons_zero, List.set_cons_succ]
      refine fld_taken_nil ?_
      refine fld_alone (i := 12) (by kernel_rfl) rfl (by rfl) (fun K hK => ?_)
      go_simp
      refine (alike_any a b A1 A2 n1 n2 c1 c2 W3.heap.size true V1 (xa.r.rin.below h1) (xb.r.rin.below h1) h1.size ha1 hb1 (by simpa using HL.out)).mono ?_
      rintro e V2 ⟨rfl, b9⟩
      have h2 := h1.trans (b9.mono h1.size)
      clear b9
      go_wp2_with fail
      refine hK.out _ _ h2 ?_
      clear hK K
      refine fld_alone (i := 15) (by kernel_rfl) rfl (by rfl) (fun K hK => ?_)
      go_simp
      refine (alike_any b a A2 A1 n2 n1 c2 c1 W3.heap.size true V2 (xb.r.rin.below h2) (xa.r.rin.below h2) h2.size hb1 ha1 (by simpa using HLS.out)).mono ?_
      rintro e V3 ⟨rfl, b9⟩
      have h3 := h2.trans (b9.mono h2.size)
      clear b9
      go_wp2_with fail
      refine hK.out _ _ h3 ?_
      clear hK K
      refine fld_takes [16, 17, 18, 19, 20] _ 13 _ _ _ (by kernel_rfl) (fun _ d _ _ _ h => by cases d <;> exact h) (by rfl) (by kernel_rfl) (by assumption) ?_
      refine fld_taken (v := ?_) rfl (by rfl) (fun w' hw' => ?_) ?_
      rotate_left
      · (go_simp <;> with_reducible rfl)
      simp only [Act.put, List.getElem_toArray, List.getElem_cons_succ, List.getElem_cons_zero, List.setIfInBounds_toArray, List.set_cons_zero, List.set_cons_succ]
      refine fld_taken (v := ?_) rfl (by rfl) (fun w' hw' => ?_) ?_
      rotate_left
      · (go_simp <;> with_reducible rfl)
      simp only [Act.put, List.getElem_toArray, List.getElem_cons_succ, List.getElem_cons_zero, List.setIfInBounds_toArray, List.set_cons_zero, List.set_cons_succ]
      refine fld_taken (v := ?_) rfl (by rfl) (fun w' hw' => ?_) ?_
      rotate_left
      · (go_simp <;> with_reducible rfl)
      simp only [Act.put, List.getElem_toArray, List.getElem_cons_succ, List.getElem_cons_zero, List.setIfInBounds_toArray, List.set_cons_zero, List.set_cons_succ]
      refine fld_taken (v := ?_) rfl (by rfl) (fun w' hw' => ?_) ?_
      rotate_left
      · (refine exec_load_v (x := .tmp 4) ?_ ?_ (xa.v.below hw' xa.v.lt) Tryd.underlying26 rfl (by simp only [rpvals]; kernel_rfl) <;> rfl)
      simp only [Act.put, List.getElem_toArray, List.getElem_cons_succ, List.getElem_cons_zero, List.setIfInBounds_toArray, List.set_cons_zero, List.set_cons_succ]
      refine fld_taken (v := ?_) rfl (by rfl) (fun w' hw' => ?_) ?_
      rotate_left
      · (refine exec_load_v (x := .tmp 5) ?_ ?_ (xb.v.below hw' xb.v.lt) Tryd.underlying26 rfl (by simp only [rpvals]; kernel_rfl) <;> rfl)
      simp only [Act.put, List.getElem_toArray, List.getElem_cons_succ, List.getElem_cons_zero, List.setIfInBounds_toArray, List.set_cons_zero, List.set_cons_succ]
      refine fld_taken_nil ?_
      refine fld_alone (i := 21) (by kernel_rfl) rfl (by rfl) (fun K hK => ?_)
      go_simp
      refine (alike_any a b A1 A2 n1 n2 c1 c2 W3.heap.size true V3 (xa.r.rin.below h3) (xb.r.rin.below h3) h3.size ha1 hb1 (by simpa using HL.out)).mono ?_
      rintro e V4 ⟨rfl, b9⟩
      have h4 := h3.trans (b9.mono h3.size)
      clear b9
      go_wp2_with fail
      refine hK.out _ _ h4 ?_
      clear hK K
      refine fld_takes [22, 23, 24] _ 9 _ _ _ (by kernel_rfl) (fun _ d _ _ _ h => by cases d <;> exact h) (by rfl) (by kernel_rfl) (by assumption) ?_
      refine fld_taken (v := ?_) rfl (by rfl) (fun w' hw' => ?_) ?_
      rotate_left
      · (go_simp <;> with_reducible rfl)
      simp only [Act.put, List.getElem_toArray, List.getElem_cons_succ, List.getElem_cons_zero, List.setIfInBounds_toArray, List.set_cons_zero, List.set_cons_succ]
      refine fld_taken (v := ?_) rfl (by rfl) (fun w' hw' => ?_) ?_
      rotate_left
      · (refine exec_load_v (x := .tmp 5) ?_ ?_ (xb.v.below hw' xb.v.lt) Tryd.underlying26 rfl (by simp only [rpvals]; kernel_rfl) <;> rfl)
      simp only [Act.put, List.getElem_toArray, List.getElem_cons_succ, List.getElem_cons_zero, List.setIfInBounds_toArray, List.set_cons_zero, List.set_cons_succ]
      refine fld_taken (v := ?_) rfl (by rfl) (fun w' hw' => ?_) ?_
      rotate_left
      · (refine exec_load_v (x := .tmp 6) ?_ ?_ (xc.v.below hw' xc.v.lt) Tryd.underlying26 rfl (by simp only [rpvals]; kernel_rfl) <;> rfl)
      simp only [Act.put, List.getElem_toArray, List.getElem_cons_succ, List.getElem_cons_zero, List.setIfInBounds_toArray, List.set_cons_zero, List.set_cons_succ]
      refine fld_taken_nil ?_
      refine fld_alone (i := 25) (by kernel_rfl) rfl (by rfl) (fun K hK => ?_)
      go_simp
      refine (alike_any b c A2 A3 n2 n3 c2 c3 W3.heap.size true V4 (xb.r.rin.below h4) (xc.r.rin.below h4) h4.size hb1 hc1 (by simpa using HQ.out)).mono ?_
      rintro e V5 ⟨rfl, b9⟩
      have h5 := h4.trans (b9.mono h4.size)
      clear b9
      go_wp2_with fail
      refine hK.out _ _ h5 ?_
      clear hK K
      refine fld_takes [26, 27, 28, 29] _ 4 _ _ _ (by kernel_rfl) (fun _ d _ _ _ h => by cases d <;> exact h) (by rfl) (by kernel_rfl) (by assumption) ?_
      refine fld_taken (v := ?_) rfl (by rfl) (fun w' hw' => ?_) ?_
      rotate_left
      · (go_simp <;> with_reducible rfl)
      simp only [Act.put, List.getElem_toArray, List.getElem_cons_succ, List.getElem_cons_zero, List.setIfInBounds_toArray, List.set_cons_zero, List.set_cons_succ]
      refine fld_taken (v := ?_) rfl (by rfl) (fun w' hw' => ?_) ?_
      rotate_left
      · (go_simp <;> with_reducible rfl)
      simp only [Act.put, List.getElem_toArray, List.getElem_cons_succ, List.getElem_cons_zero, List.setIfInBounds_toArray, List.set_cons_zero, List.set_cons_succ]
      refine fld_taken (v := ?_) rfl (by rfl) (fun w' hw' => ?_) ?_
      rotate_left
      · (refine exec_load_v (x := .tmp 4) ?_ ?_ (xa.v.below hw' xa.v.lt) Tryd.underlying26 rfl (by simp only [rpvals]; kernel_rfl) <;> rfl)
      simp only [Act.put, List.getElem_toArray, List.getElem_cons_succ, List.getElem_cons_zero, List.setIfInBounds_toArray, List.set_cons_zero, List.set_cons_succ]
      refine fld_taken (v := ?_) rfl (by rfl) (fun w' hw' => ?_) ?_
      rotate_left
      · (refine exec_load_v (x := .tmp 6) ?_ ?_ (xc.v.below hw' xc.v.lt) Tryd.underlying26 rfl (by simp only [rpvals]; kernel_rfl) <;> rfl)
      simp only [Act.put, List.getElem_toArray, List.getElem_cons_succ, List.getElem_cons_zero, List.setIfInBounds_toArray, List.set_cons_zero, List.set_cons_succ]
      refine fld_taken_nil ?_
      refine fld_alone (i := 30) (by kernel_rfl) rfl (by rfl) (fun K hK => ?_)
      go_simp
      refine (alike_any a c A1 A3 n1 n3 c1 c3 W3.heap.size true V5 (xa.r.rin.below h5) (xc.r.rin.below h5) h5.size ha1 hc1 ⟨fun _ => (HL.out.1 (by first | rfl | trivial)).trans (HQ.out.1 (by first | rfl | trivial)), fun _ => rfl⟩).mono ?_
      rintro e V6 ⟨rfl, b9⟩
      have h6 := h5.trans (b9.mono h5.size)
      clear b9
      go_wp2_with fail
      refine hK.out _ _ h6 ?_
      clear hK K
      refine fld_takes [31, 32, 33] _ 0 _ _ _ (by kernel_rfl) (fun _ d _ _ _ h => by cases d <;> exact h) (by rfl) (by kernel_rfl) (by assumption) ?_
      refine fld_taken (v := ?_) rfl (by rfl) (fun w' hw' => ?_) ?_
      rotate_left
      · (go_simp <;> with_reducible rfl)
      simp only [Act.put, List.getElem_toArray, List.getElem_cons_succ, List.getElem_cons_zero, List.setIfInBounds_toArray, List.set_cons_zero, List.set_cons_succ]
      refine fld_taken (v := ?_) rfl (by rfl) (fun w' hw' => ?_) ?_
      rotate_left
      · (go_simp <;> with_reducible rfl)
      simp only [Act.put, List.getElem_toArray, List.getElem_cons_succ, List.getElem_cons_zero, List.setIfInBounds_toArray, List.set_cons_zero, List.set_cons_succ]
      refine fld_taken (v := ?_) rfl (by rfl) (fun w' hw' => ?_) ?_
      rotate_left
      · (go_simp <;> with_reducible rfl)
      simp only [Act.put, List.getElem_toArray, List.getElem_cons_succ, List.getElem_cons_zero, List.setIfInBounds_toArray, List.set_cons_zero, List.set_cons_succ]
      refine fld_taken_nil ?_
      refine wpAnyH_done (by kernel_rfl) ?_ _
      go_wp2_with fail
      go_meet
      exact ⟨rfl, h6⟩
  case rest =>
  obtain ⟨rfl, b4⟩ := hcut
  obtain ⟨W4, hW4⟩ : ∃ W4, W4 = wc := ⟨_, rfl⟩
  rw [← hW4] at b4 ⊢
  clear hW4
  have bb := bb.trans (b4.mono bb.size)
  have xa := xa.below b4
  have xb := xb.below b4
  have xc := xc.below b4
  have gg := gg.next b4
  clear b4
  clear HM HL HLS HQ HGA HGB HGC
  go_wp2_with (first | refine wpList_load_var rfl _ rfl Tryd.underlying26 rfl rfl xa.v (by simp only [rpvals]; kernel_rfl) ?_ | refine wpList_load_want (by rfl) _ rfl Tryd.underlying26 rfl rfl xa.v (by simp only [rpvals]; kernel_rfl) ?_)
  refine (pmay_any a A1 n1 c1 _ ok W4 xa.r.rin (Nat.le_refl _) xa.r.fit xa.r.rows HOK.out).mono ?_
  rintro e W5 ⟨rfl, b5⟩
  have bb := bb.trans (b5.mono bb.size)
  have xa := xa.below b5
  have xb := xb.below b5
  have xc := xc.below b5
  have gg := gg.next b5
  clear b5
  rcases ok with _ | _
  · go_wp2_with fail
    refine (pwakes_any _ gg).mono ?_
    rintro e V9 ⟨rfl, b9⟩
    have bz := bb.trans (b9.mono bb.size)
    go_wp2
    go_ret
    exact ⟨rfl, bz⟩
  have hgood := HOK.out.1 rfl
  have hrows := hgood.rows.2
  have hoff2 := hgood.offs.2
  have hlen1 := xa.r.rin.len
  clear hgood xb xc hb1 hc1
  go_upto_region 8 with (first | refine wpList_load_var rfl _ rfl Tryd.underlying26 rfl rfl xa.v (by simp only [rpvals]; kernel_rfl) ?_ | (refine wpList_store_var rfl _ _ rfl rfl rfl (Var.new W5 #[.int .i8 0, .int .i64 0, .int .i64 0, .int .i64 0, .int .i64 0, .slice none 0 0] 26) rfl (by simp only [rpvals]; kernel_rfl) (rpvals_one a A1 n1 c1) ?_; intro W6 v6 o6; have b6 : Below W5.heap.size W5 W6 := Only.below (below_new _) o6 (Nat.le_refl _)))
  have xa6 := xa.below b6
  have hq6 := v6.lt
  obtain ⟨k0, e0, p0, ep0, of0, l0⟩ := a
  simp only [rpvals] at v6
  have d5 : W6.cell? ⟨w.heap.size, 5, none⟩ = some (.slice A1 n1 c1) := xa6.v.cell 5 rfl
  have z6 := xa6.v.lt
  have hn0 : (rwcells l0).length = n1 * 5 := by rw [rwcells_length, show l0.length = n1 from hlen1]
  have b7 : Below W6.heap.size W6 (W6.alloc (.cells #[] 37)) := below_new _
  have o7 : (W6.alloc (.cells #[] 37)).ownsRow W6.heap.size 37 5 (.slice (some ⟨W6.heap.size, 0, none⟩) 0 0) 0 [] := World.ownsRow_made W6 #[] 0 (Nat.le_refl _) (Nat.zero_le _) rfl
  have s7 : Seen (W6.alloc (.cells #[] 37)) W6.heap.size A1 (rwcells l0) := xa6.r.rin.seen.below b7
  have HN0 := Lib.hid hn0
  have HLEN1 : Hid (l0.length = n1) := hlen1
  have HROWS : Hid (∀ x ∈ l0, RwOk x) := hrows
  have hoff3 : of0 ≤ 1048576 := hoff2
  have HOLD := Lib.hid o6
  clear hn0 hlen1 hrows hoff2 o6 xa6
  go_wp2_with (at_builtin; refine wpList_append_wide (n := 0) (xs := []) (v := .slice (some ⟨W6.heap.size, 0, none⟩) 0 0) rfl _ _ rfl Tryd.underlying24 row_info rfl (by decide) (by decide) rfl rfl o7 HN0.out s7 (rwcells_one l0) (by omega) ha1 b7.size ?_)
  intro Am cm w7 om7 bm7
  have om7 : w7.ownsRow W6.heap.size 37 5 (.slice Am n1 cm) n1 (rwcells l0) := by simpa using om7
  have b67 : Below W6.heap.size W6 w7 := b7.trans bm7
  have v7 := v6.below b67 v6.lt
  have c7 := v7.cell 5 rfl
  have f7 := v7.free 5
  have z7 := v7.lt
  have b57 : Below W5.heap.size W5 w7 := b6.trans (b67.mono b6.size)
  clear o7 s7 b7 bm7 b67 d5 z6 b6
  go_upto_region 9 with fail
  obtain ⟨W8, hW8⟩ : ∃ W8, W8 = w7.setCell ⟨W5.heap.size, 5, none⟩ (.slice Am n1 cm) := ⟨_, rfl⟩
  have v8 : Var W8 W5.heap.size 26 #[.int .i8 k0, .int .i64 e0, .int .i64 p0, .int .i64 ep0, .int .i64 of0, .slice Am n1 cm] := by rw [hW8]; exact v7.set 5 _
  have o8 : W8.ownsRow W6.heap.size 37 5 (.slice Am n1 cm) n1 (rwcells l0) := by rw [hW8]; exact own_set om7 (by show W5.heap.size < W6.heap.size; exact hq6) _
  have b58 : Below W5.heap.size W5 W8 := by rw [hW8]; exact b57.setCell (by show W5.heap.size ≤ W5.heap.size; omega) _
  try simp only [Nat.zero_add]
  rw [← hW8]
  clear hW8 v7 om7 b57 c7 f7 z7 v6
  have c4 := v8.cell 4 rfl
  have c5 := v8.cell 5 rfl
  have f4 := v8.free 4
  have z8 := v8.lt
  have hpos : 0 < d := by omega
  by_cases hof : 0 ≤ of0
  · have y9 : decide (0 ≤ of0) = true := by simpa using hof
    have HS : Hid (shI d of0 = of0 + d) := by show _ = _; unfold shI; rw [if_pos hof]
    go_upto_region 11 with fail
    obtain ⟨Wm, hWm⟩ : ∃ Wm, Wm = W8.setCell ⟨W5.heap.size, 4, none⟩ (.int .i64 (of0 + d)) := ⟨_, rfl⟩
    have vm : Var Wm W5.heap.size 26 #[.int .i8 k0, .int .i64 e0, .int .i64 p0, .int .i64 ep0, .int .i64 (shI d of0), .slice Am n1 cm] := by rw [hWm, HS.out]; exact v8.set 4 _
    have om : Wm.ownsRow W6.heap.size 37 5 (.slice Am n1 cm) n1 (rwcells l0) := by rw [hWm]; exact own_set o8 (by show W5.heap.size < W6.heap.size; exact hq6) _
    have bm : Below W5.heap.size W5 Wm := by rw [hWm]; exact b58.setCell (by show W5.heap.size ≤ W5.heap.size; omega) _
    rw [← hWm]
    clear hWm v8 o8 b58 c4 c5 f4 z8 y9 HS hof
    have c5 := vm.cell 5 rfl
    have zm := vm.lt
    go_wp2
    clear c5 zm
    go_loopw [85] (fun i wr => ∃ (k : Nat), k ≤ n1 ∧ i = .int .i64 k ∧ Var wr W5.heap.size 26 #[.int .i8 k0, .int .i64 e0, .int .i64 p0, .int .i64 ep0, .int .i64 (shI d of0), .slice Am n1 cm] ∧ wr.ownsRow W6.heap.size 37 5 (.slice Am n1 cm) n1 (rwcells ((l0.take k).map (shR d) ++ l0.drop k)) ∧ Below W5.heap.size W5 wr) (fun i _ => n1 - (intOf i).toNat)
    case atStart => exact ⟨0, by omega, rfl, vm, by simpa using om, bm⟩
    case round =>
      obtain ⟨k, hk, rfl, rv, ro, rb⟩ := hrel
      by_cases hlt : k < n1
      · obtain ⟨h, rfl⟩ := own_some ro (by omega)
        obtain ⟨r, hr⟩ := row_here HLEN1.out hlt
        obtain ⟨r0, -, -, -, -⟩ := own_at ro (sh_here hr)
        obtain ⟨hh, hh2⟩ := own_lt ro
        have hfree := own_free ro (k * 5)
        have hro2 := (HROWS.out r (List.mem_of_getElem? hr)).1.2
        have HSTEP := Lib.hid (sh_step (by_ := d) hr)
        have HLEV := Lib.hid (sh_here (by_ := d) hr)
        obtain ⟨ra, rp, rs, rk, rw_⟩ := r
        simp only at r0 hro2
        have c5 := rv.cell 5 rfl
        have zr := rv.lt
        clear hr
        by_cases hra : 0 ≤ ra
        · have y9 : decide (0 ≤ ra) = true := by simpa using hra
          have hlk : k * 5 < (rwcells ((l0.take k).map (shR d) ++ l0.drop k)).length := by
            have h1 := rwcells_length ((l0.take k).map (shR d) ++ l0.drop k)
            have h2 := (List.getElem?_eq_some_iff.1 HLEV.out).1
            omega
          have o1 := own_put (u := .int .i64 (shI d ra)) ro hlk
          rw [← rwcells_set HLEV.out (shI d ra), HSTEP.out, show shI d ra = ra + d by unfold shI; rw [if_pos hra]] at o1
          have HOUT := Lib.hid (And.intro (rv.other (b := h) (k * 5) (.int .i64 (ra + d)) (by omega)) (And.intro o1 (rb.setCell (p := ⟨h, k * 5, none⟩) (by show W5.heap.size ≤ h; omega) (.int .i64 (ra + d)))))
          clear o1 hlk
          go_wp2
          go_roundw
          case rel => exact ⟨k + 1, by omega, by go_num, HOUT.out.1, HOUT.out.2.1, HOUT.out.2.2⟩
          case measure => simp [intOf]; omega
        · have y9 : decide (0 ≤ ra) = false := by simpa using hra
          have HSAME : Hid (rwcells ((l0.take (k + 1)).map (shR d) ++ l0.drop (k + 1)) = rwcells ((l0.take k).map (shR d) ++ l0.drop k)) := by
            show _ = _
            rw [← HSTEP.out]
            simp only [show shI d ra = ra by unfold shI; rw [if_neg hra]]
            rw [list_set_same HLEV.out]
          clear hra
          go_wp2
          go_roundw
          case rel => exact ⟨k + 1, by omega, by go_num, rv, by rw [HSAME.out]; exact ro, rb⟩
          case measure => simp [intOf]; omega
      · have hkn : k = n1 := by omega
        have HL1 := Lib.hid HLEN1.out
        have hl9 : (l0.take k).map (shR d) ++ l0.drop k = l0.map (shR d) := by rw [List.take_of_length_le (by have := HL1.out; omega), List.drop_of_length_le (by have := HL1.out; omega), List.append_nil]
        rw [hl9] at ro
        obtain ⟨A2', c2', he2, hs2, hc2⟩ := own_formN ro
        injection he2 with e1 _ e3
        subst e1 e3
        have xz := xa.below rb
        have mrin : RIn wr wr.heap.size ⟨k0, e0, p0, ep0, shI d of0, l0.map (shR d)⟩ Am n1 cm := ⟨by show (l0.map (shR d)).length = n1; rw [List.length_map]; exact HL1.out, hs2, hc2, xz.r.rin.max, sh_sizes xz.r.rin.sizes⟩
        have vm9 : Var wr W5.heap.size 26 (rpvals ⟨k0, e0, p0, ep0, shI d of0, l0.map (shR d)⟩ Am n1 cm) := rv
        have HALIKE := Lib.hid (alike_any ⟨k0, e0, p0, ep0, of0, l0⟩ ⟨k0, e0, p0, ep0, shI d of0, l0.map (shR d)⟩ A1 Am n1 n1 c1 cm _ true wr xz.r.rin mrin (Nat.le_refl _) ha1 ha1 ⟨fun _ => lev_sh hpos ⟨k0, e0, p0, ep0, of0, l0⟩, fun _ => rfl⟩)
        have gg := gg.next rb
        have bb := bb.trans (rb.mono bb.size)
        clear hl9 ro hs2 hc2 mrin rv hkn
        go_wp2_with (first | refine wpList_load_var rfl _ rfl Tryd.underlying26 rfl rfl xz.v (by simp only [rpvals]; kernel_rfl) ?_ | refine wpList_load_var rfl _ rfl Tryd.underlying26 rfl rfl vm9 (by simp only [rpvals]; kernel_rfl) ?_)
        refine HALIKE.out.mono ?_
        rintro e V9 ⟨rfl, b9⟩
        have gg := gg.next b9
        have bb := bb.trans (b9.mono bb.size)
        clear b9 vm9 xz
        go_wp2_with fail
        refine (pwakes_any _ gg).mono ?_
        rintro e V9 ⟨rfl, b9⟩
        have bz := bb.trans (b9.mono bb.size)
        go_wp2
        go_ret
        exact ⟨rfl, bz⟩
  · have y9 : decide (0 ≤ of0) = false := by simpa using hof
    have HS : Hid (shI d of0 = of0) := by show _ = _; unfold shI; rw [if_neg hof]
    go_upto_region 11 with fail
    obtain ⟨Wm, hWm⟩ : ∃ Wm, Wm = W8 := ⟨_, rfl⟩
    have vm : Var Wm W5.heap.size 26 #[.int .i8 k0, .int .i64 e0, .int .i64 p0, .int .i64 ep0, .int .i64 (shI d of0), .slice Am n1 cm] := by rw [hWm, HS.out]; exact v8
    have om : Wm.ownsRow W6.heap.size 37 5 (.slice Am n1 cm) n1 (rwcells l0) := by rw [hWm]; exact o8
    have bm : Below W5.heap.size W5 Wm := by rw [hWm]; exact b58
    rw [← hWm]
    clear hWm v8 o8 b58 c4 c5 f4 z8 y9 HS hof
    have c5 := vm.cell 5 rfl
    have zm := vm.lt
    go_wp2
    clear c5 zm
    go_loopw [85] (fun i wr => ∃ (k : Nat), k ≤ n1 ∧ i = .int .i64 k ∧ Var wr W5.heap.size 26 #[.int .i8 k0, .int .i64 e0, .int .i64 p0, .int .i64 ep0, .int .i64 (shI d of0), .slice Am n1 cm] ∧ wr.ownsRow W6.heap.size 37 5 (.slice Am n1 cm) n1 (rwcells ((l0.take k).map (shR d) ++ l0.drop k)) ∧ Below W5.heap.size W5 wr) (fun i _ => n1 - (intOf i).toNat)
    case atStart => exact ⟨0, by omega, rfl, vm, by simpa using om, bm⟩
    case round =>
      obtain ⟨k, hk, rfl, rv, ro, rb⟩ := hrel
      by_cases hlt : k < n1
      · obtain ⟨h, rfl⟩ := own_some ro (by omega)
        obtain ⟨r, hr⟩ := row_here HLEN1.out hlt
        obtain ⟨r0, -, -, -, -⟩ := own_at ro (sh_here hr)
        obtain ⟨hh, hh2⟩ := own_lt ro
        have hfree := own_free ro (k * 5)
        have hro2 := (HROWS.out r (List.mem_of_getElem? hr)).1.2
        have HSTEP := Lib.hid (sh_step (by_ := d) hr)
        have HLEV := Lib.hid (sh_here (by_ := d) hr)
        obtain ⟨ra, rp, rs, rk, rw_⟩ := r
        simp only at r0 hro2
        have c5 := rv.cell 5 rfl
        have zr := rv.lt
        clear hr
        by_cases hra : 0 ≤ ra
        · have y9 : decide (0 ≤ ra) = true := by simpa using hra
          have hlk : k * 5 < (rwcells ((l0.take k).map (shR d) ++ l0.drop k)).length := by
            have h1 := rwcells_length ((l0.take k).map (shR d) ++ l0.drop k)
            have h2 := (List.getElem?_eq_some_iff.1 HLEV.out).1
            omega
          have o1 := own_put (u := .int .i64 (shI d ra)) ro hlk
          rw [← rwcells_set HLEV.out (shI d ra), HSTEP.out, show shI d ra = ra + d by unfold shI; rw [if_pos hra]] at o1
          have HOUT := Lib.hid (And.intro (rv.other (b := h) (k * 5) (.int .i64 (ra + d)) (by omega)) (And.intro o1 (rb.setCell (p := ⟨h, k * 5, none⟩) (by show W5.heap.size ≤ h; omega) (.int .i64 (ra + d)))))
          clear o1 hlk
          go_wp2
          go_roundw
          case rel => exact ⟨k + 1, by omega, by go_num, HOUT.out.1, HOUT.out.2.1, HOUT.out.2.2⟩
          case measure => simp [intOf]; omega
        · have y9 : decide (0 ≤ ra) = false := by simpa using hra
          have HSAME : Hid (rwcells ((l0.take (k + 1)).map (shR d) ++ l0.drop (k + 1)) = rwcells ((l0.take k).map (shR d) ++ l0.drop k)) := by
            show _ = _
            rw [← HSTEP.out]
            simp only [show shI d ra = ra by unfold shI; rw [if_neg hra]]
            rw [list_set_same HLEV.out]
          clear hra
          go_wp2
          go_roundw
          case rel => exact ⟨k + 1, by omega, by go_num, rv, by rw [HSAME.out]; exact ro, rb⟩
          case measure => simp [intOf]; omega
      · have hkn : k = n1 := by omega
        have HL1 := Lib.hid HLEN1.out
        have hl9 : (l0.take k).map (shR d) ++ l0.drop k = l0.map (shR d) := by rw [List.take_of_length_le (by have := HL1.out; omega), List.drop_of_length_le (by have := HL1.out; omega), List.append_nil]
        rw [hl9] at ro
        obtain ⟨A2', c2', he2, hs2, hc2⟩ := own_formN ro
        injection he2 with e1 _ e3
        subst e1 e3
        have xz := xa.below rb
        have mrin : RIn wr wr.heap.size ⟨k0, e0, p0, ep0, shI d of0, l0.map (shR d)⟩ Am n1 cm := ⟨by show (l0.map (shR d)).length = n1; rw [List.length_map]; exact HL1.out, hs2, hc2, xz.r.rin.max, sh_sizes xz.r.rin.sizes⟩
        have vm9 : Var wr W5.heap.size 26 (rpvals ⟨k0, e0, p0, ep0, shI d of0, l0.map (shR d)⟩ Am n1 cm) := rv
        have HALIKE := Lib.hid (alike_any ⟨k0, e0, p0, ep0, of0, l0⟩ ⟨k0, e0, p0, ep0, shI d of0, l0.map (shR d)⟩ A1 Am n1 n1 c1 cm _ true wr xz.r.rin mrin (Nat.le_refl _) ha1 ha1 ⟨fun _ => lev_sh hpos ⟨k0, e0, p0, ep0, of0, l0⟩, fun _ => rfl⟩)
        have gg := gg.next rb
        have bb := bb.trans (rb.mono bb.size)
        clear hl9 ro hs2 hc2 mrin rv hkn
        go_wp2_with (first | refine wpList_load_var rfl _ rfl Tryd.underlying26 rfl rfl xz.v (by simp only [rpvals]; kernel_rfl) ?_ | refine wpList_load_var rfl _ rfl Tryd.underlying26 rfl rfl vm9 (by simp only [rpvals]; kernel_rfl) ?_)
        refine HALIKE.out.mono ?_
        rintro e V9 ⟨rfl, b9⟩
        have gg := gg.next b9
        have bb := bb.trans (b9.mono bb.size)
        clear b9 vm9 xz
        go_wp2_with fail
        refine (pwakes_any _ gg).mono ?_
        rintro e V9 ⟨rfl, b9⟩
        have bz := bb.trans (b9.mono bb.size)
        go_wp2
        go_ret
        exact ⟨rfl, bz⟩
end Go.Proofs.YtplpagnnlggfgaaDoor
