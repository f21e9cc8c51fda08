/-
  Contracts of the methods by which entry's reader reads a copy's fields, and a state's. Conditions: those that each theorem names.
-/
import Derived.Test.YtchpemgamgcbkaaGreatEntRd
import Derived.Deep.RegionLaw
namespace Go.Proofs.YtchpemgamgcbkaaGreat
open Go.RowKit

set_option maxRecDepth 100000 in
set_option maxHeartbeats 1000000 in
theorem rcopy_yes (g : Nat) (s : ByteArray) (p : Nat) (bad : Bool) (b : Bt) (nx : Int) (p1 p2 : Nat) (b1 b2 : Bool) (p' : Nat) (bad' : Bool) (w : World) (h1 : TakeIs s p bad b p1 b1) (h2 : FlagIs s p1 b1 true p2 b2) (h3 : NumIs s p2 b2 0 1099511627776 nx p' bad') (hr : Rd 105 w g s p bad) (hx : s.size ≤ 1000000) (hp : p ≤ s.size) :
    Calls Tryz.prog 65 #[.agg #[.pointer (some ⟨g, 0, none⟩)]] w (EnRd g s (copyE b true nx) p' bad' w) := by
  have H1 := Lib.hid h1
  have H2 := Lib.hid h2
  have H3 := Lib.hid h3
  have q1 := h1.le hp
  have q2 := h2.le q1
  clear h1 h2 h3
  obtain ⟨W0, hW0⟩ : ∃ W0, W0 = (w.alloc (.cells #[.pointer (some ⟨g, 0, none⟩)] 89)).alloc (.cells #[.int .i8 0, .int .i64 0, .int .i64 0, .int .i64 0, .bool false, .slice none 0 0, .bool false, .int .i64 0, .int .i64 0, .int .i64 0, .int .i64 0, .int .i64 0, .string ⟨#[]⟩, .string ⟨#[]⟩, .int .i64 0, .int .i64 0, .int .i64 0, .slice none 0 0] 32) := ⟨_, rfl⟩
  obtain ⟨vb, vr, hr0, k0, z0⟩ := rd_two w g #[.int .i8 0, .int .i64 0, .int .i64 0, .int .i64 0, .bool false, .slice none 0 0, .bool false, .int .i64 0, .int .i64 0, .int .i64 0, .int .i64 0, .int .i64 0, .string ⟨#[]⟩, .string ⟨#[]⟩, .int .i64 0, .int .i64 0, .int .i64 0, .slice none 0 0] 32 s p bad hr
  rw [← hW0] at vb vr hr0 k0 z0
  have hgw : g < w.heap.size := Var.lt hr
  have hz0 : w.heap.size + 1 < W0.heap.size := by omega
  have HW0 := Lib.hid hW0
  clear hW0 hr z0
  go_enter Tryz.func65, Tryz.ntmps65
  go_upto_region 1 with fail
  rw [← HW0.out]
  have hcc := vb.cell 0 rfl
  have hcl := vb.lt
  go_wp2_with fail
  refine (rdata g s p bad b p1 b1 W0 H1.out hr0 hx hp).mono ?_
  rintro e W1 ⟨A, n, c, D, m, d, rfl, ho1, hr1, r1⟩
  have vb1 := vb.kept r1 (by simp; omega)
  have vr1 := vr.kept r1 (by simp; omega)
  have k1 := k0.trans r1
  have hz1 := r1.size
  clear vb vr hr0 hcc hcl HW0 k0 r1 H1
  simp only [evals, dataE, noRw, noPd]
  go_wp2_with (refine wpList_store_var rfl _ _ rfl rfl rfl (Var.new W1 #[.int .i8 0, .int .i64 0, .int .i64 0, .int .i64 0, .bool false, .slice none 0 0, .bool false, .int .i64 0, .int .i64 0, .int .i64 0, .int .i64 0, .int .i64 0, .string ⟨#[]⟩, .string ⟨#[]⟩, .int .i64 0, .int .i64 0, .int .i64 0, .slice none 0 0] 32) rfl (by kernel_rfl) (by simp [Value.oneCell']) ?_; intro W2 v2 o2; refine wpList_at (C := fun W => Var W W1.heap.size 32 #[.int .i8 0, .int .i64 b.pid, .int .i64 b.ep, .int .i64 b.sq, .bool b.tx, .slice A n c, .bool false, .int .i64 0, .int .i64 0, .int .i64 0, .int .i64 0, .int .i64 0, .string ⟨#[]⟩, .string ⟨#[]⟩, .int .i64 0, .int .i64 0, .int .i64 0, .slice D m d] ∧ Var W w.heap.size 89 #[.pointer (some ⟨g, 0, none⟩)] ∧ Var W (w.heap.size + 1) 32 #[.int .i8 0, .int .i64 0, .int .i64 0, .int .i64 0, .bool false, .slice none 0 0, .bool false, .int .i64 0, .int .i64 0, .int .i64 0, .int .i64 0, .int .i64 0, .string ⟨#[]⟩, .string ⟨#[]⟩, .int .i64 0, .int .i64 0, .int .i64 0, .slice none 0 0] ∧ Rd 105 W g s p1 b1 ∧ Kept [g] w W ∧ EOwn W0.heap.size W (dataE b) A n c D m d) ⟨v2, o2.var (vb1.alloc _) (by omega), o2.var (vr1.alloc _) (by omega), o2.var (Var.alloc hr1 _) (by omega), Only.kept (k1.alloc _) o2 (.inr (by omega)), ho1.next (Only.below (below_new _) o2 (Nat.le_refl _))⟩ ?_; clear v2 o2 vb1 vr1 hr1 k1 ho1; rintro W3 ⟨v3, vb3, vr3, hr3, k3, ho3⟩; have hcc := vb3.cell 0 rfl; have hcl := vb3.lt)
  obtain ⟨x, hxx⟩ : ∃ x, x = W1.heap.size := ⟨_, rfl⟩
  have hxw : w.heap.size + 1 < x := by omega
  rw [← hxx] at v3
  have HXX := Lib.hid hxx
  refine (flag_all g s p1 b1 true p2 b2 W3 H2.out hr3 hx).mono ?_
  rintro e W4 ⟨rfl, hr4, r4⟩
  rw [← hxx]
  clear hxx hz1
  have vb4 : Var W4 w.heap.size 89 #[.pointer (some ⟨g, 0, none⟩)] := vb3.kept r4 (by simp; omega)
  have v4 := v3.kept r4 (by simp; omega)
  have vr4 := vr3.kept r4 (by simp; omega)
  have k4 := k3.trans r4
  have ho4 := (ho3.kept r4 (by simp; omega)).down (B := w.heap.size) (by omega)
  clear v3 vb3 vr3 hr3 k3 ho3 r4 hcc hcl H2
  have d6 := v4.cell 6 rfl
  have f4 := v4.free
  have z4 := v4.lt
  go_upto_region 3 with fail
  have v5 := v4.set 6 (.bool true)
  simp only [List.setIfInBounds_toArray, List.set_cons_succ, List.set_cons_zero] at v5
  refine wp_at (C := fun W => Var W x 32 #[.int .i8 0, .int .i64 b.pid, .int .i64 b.ep, .int .i64 b.sq, .bool b.tx, .slice A n c, .bool true, .int .i64 0, .int .i64 0, .int .i64 0, .int .i64 0, .int .i64 0, .string ⟨#[]⟩, .string ⟨#[]⟩, .int .i64 0, .int .i64 0, .int .i64 0, .slice D m d] ∧ Var W w.heap.size 89 #[.pointer (some ⟨g, 0, none⟩)] ∧ Var W (w.heap.size + 1) 32 #[.int .i8 0, .int .i64 0, .int .i64 0, .int .i64 0, .bool false, .slice none 0 0, .bool false, .int .i64 0, .int .i64 0, .int .i64 0, .int .i64 0, .int .i64 0, .string ⟨#[]⟩, .string ⟨#[]⟩, .int .i64 0, .int .i64 0, .int .i64 0, .slice none 0 0] ∧ Rd 105 W g s p2 b2 ∧ Kept [g] w W ∧ EOwn w.heap.size W (dataE b) A n c D m d) ⟨v5, vb4.other _ _ (by omega), vr4.other _ _ (by omega), Var.other hr4 _ _ (by omega), k4.setCell (.inr (by simp only; omega)) _, ho4.other v4 (by decide) (by decide) (Only.setCell _ _ _ _)⟩ ?_
  clear v4 v5 vb4 vr4 hr4 k4 ho4 d6 f4 z4
  rintro W5 ⟨v5, vb5, vr5, hr5, k5, ho5⟩
  have d6 := v5.cell 6 rfl
  have z5 := v5.lt
  have hcc := vb5.cell 0 rfl
  have hcl := vb5.lt
  go_wp2_with (refine wpList_load_var rfl _ rfl Tryz.underlying89 rfl rfl vb5 (by kernel_rfl) ?_)
  refine (rnumber_any g s p2 b2 nx p' bad' W5 H3.out hr5 hx q2).mono ?_
  rintro e W6 ⟨rfl, hr6, r6⟩
  have v6 := v5.kept r6 (by simp; omega)
  have vr6 := vr5.kept r6 (by simp; omega)
  have k6 := k5.trans r6
  have ho6 := ho5.kept r6 (by simp; omega)
  clear v5 vr5 vb5 hr5 k5 ho5 r6 hcc hcl d6 z5 H3
  have d7 := v6.cell 7 rfl
  have f6 := v6.free
  have z6 := v6.lt
  go_upto_region 5 with fail
  have v7 := v6.set 7 (.int .i64 nx)
  simp only [List.setIfInBounds_toArray, List.set_cons_succ, List.set_cons_zero] at v7
  refine wp_at (C := fun W => Var W x 32 #[.int .i8 0, .int .i64 b.pid, .int .i64 b.ep, .int .i64 b.sq, .bool b.tx, .slice A n c, .bool true, .int .i64 nx, .int .i64 0, .int .i64 0, .int .i64 0, .int .i64 0, .string ⟨#[]⟩, .string ⟨#[]⟩, .int .i64 0, .int .i64 0, .int .i64 0, .slice D m d] ∧ Var W (w.heap.size + 1) 32 #[.int .i8 0, .int .i64 0, .int .i64 0, .int .i64 0, .bool false, .slice none 0 0, .bool false, .int .i64 0, .int .i64 0, .int .i64 0, .int .i64 0, .int .i64 0, .string ⟨#[]⟩, .string ⟨#[]⟩, .int .i64 0, .int .i64 0, .int .i64 0, .slice none 0 0] ∧ Rd 105 W g s p' bad' ∧ Kept [g] w W ∧ EOwn w.heap.size W (dataE b) A n c D m d) ⟨v7, vr6.other _ _ (by omega), Var.other hr6 _ _ (by omega), k6.setCell (.inr (by simp only; omega)) _, ho6.other v6 (by decide) (by decide) (Only.setCell _ _ _ _)⟩ ?_
  clear v6 v7 vr6 hr6 k6 ho6 d7 f6 z6
  rintro W7 ⟨v7, vr7, hr7, k7, ho7⟩
  go_wp2_with (first | refine wpList_load_var rfl _ rfl Tryz.underlying32 rfl rfl v7 (by kernel_rfl) ?_ | (refine wpList_store_var rfl _ _ rfl rfl rfl vr7 rfl (by kernel_rfl) (by simp [Value.oneCell']) ?_; intro W9 v9 o9))
  have hr9 : Rd 105 W9 g s p' bad' := o9.var hr7 (by omega)
  have k9 := Only.kept k7 o9 (.inr (Nat.le_succ _))
  have ho9 := ho7.other vr7 (by decide) (by decide) o9
  refine bodyPost_ret (results_var rfl rfl v9 Tryz.underlying32 rfl (by kernel_rfl)) rfl ?_
  exact ⟨A, n, c, D, m, d, rfl, ho9.alike rfl rfl rfl, hr9, k9⟩

set_option maxRecDepth 100000 in
set_option maxHeartbeats 1000000 in
theorem rcopy_no (g : Nat) (s : ByteArray) (p : Nat) (bad : Bool) (b : Bt) (p1 : Nat) (b1 : Bool) (p' : Nat) (bad' : Bool) (w : World) (h1 : TakeIs s p bad b p1 b1) (h2 : FlagIs s p1 b1 false p' bad') (hr : Rd 105 w g s p bad) (hx : s.size ≤ 1000000) (hp : p ≤ s.size) :
    Calls Tryz.prog 65 #[.agg #[.pointer (some ⟨g, 0, none⟩)]] w (EnRd g s (copyE b false 0) p' bad' w) := by
  have H1 := Lib.hid h1
  have H2 := Lib.hid h2
  have q1 := h1.le hp
  have q2 := h2.le q1
  clear h1 h2
  obtain ⟨W0, hW0⟩ : ∃ W0, W0 = (w.alloc (.cells #[.pointer (some ⟨g, 0, none⟩)] 89)).alloc (.cells #[.int .i8 0, .int .i64 0, .int .i64 0, .int .i64 0, .bool false, .slice none 0 0, .bool false, .int .i64 0, .int .i64 0, .int .i64 0, .int .i64 0, .int .i64 0, .string ⟨#[]⟩, .string ⟨#[]⟩, .int .i64 0, .int .i64 0, .int .i64 0, .slice none 0 0] 32) := ⟨_, rfl⟩
  obtain ⟨vb, vr, hr0, k0, z0⟩ := rd_two w g #[.int .i8 0, .int .i64 0, .int .i64 0, .int .i64 0, .bool false, .slice none 0 0, .bool false, .int .i64 0, .int .i64 0, .int .i64 0, .int .i64 0, .int .i64 0, .string ⟨#[]⟩, .string ⟨#[]⟩, .int .i64 0, .int .i64 0, .int .i64 0, .slice none 0 0] 32 s p bad hr
  rw [← hW0] at vb vr hr0 k0 z0
  have hgw : g < w.heap.size := Var.lt hr
  have hz0 : w.heap.size + 1 < W0.heap.size := by omega
  have HW0 := Lib.hid hW0
  clear hW0 hr z0
  go_enter Tryz.func65, Tryz.ntmps65
  go_upto_region 1 with fail
  rw [← HW0.out]
  have hcc := vb.cell 0 rfl
  have hcl := vb.lt
  go_wp2_with fail
  refine (rdata g s p bad b p1 b1 W0 H1.out hr0 hx hp).mono ?_
  rintro e W1 ⟨A, n, c, D, m, d, rfl, ho1, hr1, r1⟩
  have vb1 := vb.kept r1 (by simp; omega)
  have vr1 := vr.kept r1 (by simp; omega)
  have k1 := k0.trans r1
  have hz1 := r1.size
  clear vb vr hr0 hcc hcl HW0 k0 r1 H1
  simp only [evals, dataE, noRw, noPd]
  go_wp2_with (refine wpList_store_var rfl _ _ rfl rfl rfl (Var.new W1 #[.int .i8 0, .int .i64 0, .int .i64 0, .int .i64 0, .bool false, .slice none 0 0, .bool false, .int .i64 0, .int .i64 0, .int .i64 0, .int .i64 0, .int .i64 0, .string ⟨#[]⟩, .string ⟨#[]⟩, .int .i64 0, .int .i64 0, .int .i64 0, .slice none 0 0] 32) rfl (by kernel_rfl) (by simp [Value.oneCell']) ?_; intro W2 v2 o2; refine wpList_at (C := fun W => Var W W1.heap.size 32 #[.int .i8 0, .int .i64 b.pid, .int .i64 b.ep, .int .i64 b.sq, .bool b.tx, .slice A n c, .bool false, .int .i64 0, .int .i64 0, .int .i64 0, .int .i64 0, .int .i64 0, .string ⟨#[]⟩, .string ⟨#[]⟩, .int .i64 0, .int .i64 0, .int .i64 0, .slice D m d] ∧ Var W w.heap.size 89 #[.pointer (some ⟨g, 0, none⟩)] ∧ Var W (w.heap.size + 1) 32 #[.int .i8 0, .int .i64 0, .int .i64 0, .int .i64 0, .bool false, .slice none 0 0, .bool false, .int .i64 0, .int .i64 0, .int .i64 0, .int .i64 0, .int .i64 0, .string ⟨#[]⟩, .string ⟨#[]⟩, .int .i64 0, .int .i64 0, .int .i64 0, .slice none 0 0] ∧ Rd 105 W g s p1 b1 ∧ Kept [g] w W ∧ EOwn W0.heap.size W (dataE b) A n c D m d) ⟨v2, o2.var (vb1.alloc _) (by omega), o2.var (vr1.alloc _) (by omega), o2.var (Var.alloc hr1 _) (by omega), Only.kept (k1.alloc _) o2 (.inr (by omega)), ho1.next (Only.below (below_new _) o2 (Nat.le_refl _))⟩ ?_; clear v2 o2 vb1 vr1 hr1 k1 ho1; rintro W3 ⟨v3, vb3, vr3, hr3, k3, ho3⟩; have hcc := vb3.cell 0 rfl; have hcl := vb3.lt)
  obtain ⟨x, hxx⟩ : ∃ x, x = W1.heap.size := ⟨_, rfl⟩
  have hxw : w.heap.size + 1 < x := by omega
  rw [← hxx] at v3
  have HXX := Lib.hid hxx
  refine (flag_all g s p1 b1 false p' bad' W3 H2.out hr3 hx).mono ?_
  rintro e W4 ⟨rfl, hr4, r4⟩
  rw [← hxx]
  clear hxx hz1
  have vb4 : Var W4 w.heap.size 89 #[.pointer (some ⟨g, 0, none⟩)] := vb3.kept r4 (by simp; omega)
  have v4 := v3.kept r4 (by simp; omega)
  have vr4 := vr3.kept r4 (by simp; omega)
  have k4 := k3.trans r4
  have ho4 := (ho3.kept r4 (by simp; omega)).down (B := w.heap.size) (by omega)
  clear v3 vb3 vr3 hr3 k3 ho3 r4 hcc hcl H2
  have d6 := v4.cell 6 rfl
  have f4 := v4.free
  have z4 := v4.lt
  go_upto_region 3 with fail
  have v5 := v4.set 6 (.bool false)
  simp only [List.setIfInBounds_toArray, List.set_cons_succ, List.set_cons_zero] at v5
  refine wp_at (C := fun W => Var W x 32 #[.int .i8 0, .int .i64 b.pid, .int .i64 b.ep, .int .i64 b.sq, .bool b.tx, .slice A n c, .bool false, .int .i64 0, .int .i64 0, .int .i64 0, .int .i64 0, .int .i64 0, .string ⟨#[]⟩, .string ⟨#[]⟩, .int .i64 0, .int .i64 0, .int .i64 0, .slice D m d] ∧ Var W w.heap.size 89 #[.pointer (some ⟨g, 0, none⟩)] ∧ Var W (w.heap.size + 1) 32 #[.int .i8 0, .int .i64 0, .int .i64 0, .int .i64 0, .bool false, .slice none 0 0, .bool false, .int .i64 0, .int .i64 0, .int .i64 0, .int .i64 0, .int .i64 0, .string ⟨#[]⟩, .string ⟨#[]⟩, .int .i64 0, .int .i64 0, .int .i64 0, .slice none 0 0] ∧ Rd 105 W g s p' bad' ∧ Kept [g] w W ∧ EOwn w.heap.size W (dataE b) A n c D m d) ⟨v5, vb4.other _ _ (by omega), vr4.other _ _ (by omega), Var.other hr4 _ _ (by omega), k4.setCell (.inr (by simp only; omega)) _, ho4.other v4 (by decide) (by decide) (Only.setCell _ _ _ _)⟩ ?_
  clear v4 v5 vb4 vr4 hr4 k4 ho4 d6 f4 z4
  rintro W5 ⟨v5, vb5, vr5, hr5, k5, ho5⟩
  have d6 := v5.cell 6 rfl
  have z5 := v5.lt
  go_upto_region 5 with fail
  have v7 := v5
  have vr7 := vr5
  have hr7 := hr5
  have k7 := k5
  have ho7 := ho5
  clear v5 vr5 vb5 hr5 k5 ho5 d6 z5
  go_wp2_with (first | refine wpList_load_var rfl _ rfl Tryz.underlying32 rfl rfl v7 (by kernel_rfl) ?_ | (refine wpList_store_var rfl _ _ rfl rfl rfl vr7 rfl (by kernel_rfl) (by simp [Value.oneCell']) ?_; intro W9 v9 o9))
  have hr9 : Rd 105 W9 g s p' bad' := o9.var hr7 (by omega)
  have k9 := Only.kept k7 o9 (.inr (Nat.le_succ _))
  have ho9 := ho7.other vr7 (by decide) (by decide) o9
  refine bodyPost_ret (results_var rfl rfl v9 Tryz.underlying32 rfl (by kernel_rfl)) rfl ?_
  exact ⟨A, n, c, D, m, d, rfl, ho9.alike rfl rfl rfl, hr9, k9⟩
end Go.Proofs.YtchpemgamgcbkaaGreat
