/-
  Contract of the document's bare: what it returns and what it does to memory. Conditions: those that the theorem names.
-/
import Derived.Test.YtchpemgamgcbkaaGreatEntRest
namespace Go.Proofs.YtchpemgamgcbkaaGreat
open Go.RowKit

theorem EIn.mk2 {w : World} {B : Nat} {x y : En} {A D A' D' : Option Addr} {n c m d n' c' m' d' : Nat} (h : EIn w B x A n c D m d) (hb : (y.b.rs = x.b.rs ∧ A' = A ∧ n' = n ∧ c' = c) ∨ (y.b.rs = [] ∧ A' = none ∧ n' = 0 ∧ c' = 0)) (hp : (y.pd.sn = x.pd.sn ∧ D' = D ∧ m' = m ∧ d' = d) ∨ (y.pd.sn = [] ∧ D' = none ∧ m' = 0 ∧ d' = 0))
    (hr : (y.row.k = x.row.k ∧ y.row.v = x.row.v) ∨ (y.row.k = ⟨#[]⟩ ∧ y.row.v = ⟨#[]⟩)) : EIn w B y A' n' c' D' m' d' := by
  have h1 : y.b.rs.length = n' ∧ Seen w B A' (rcells y.b.rs) ∧ n' ≤ c' ∧ n' ≤ 9223372036854775807 ∧ ∀ z ∈ y.b.rs, z.k.size ≤ 9223372036854775807 ∧ z.v.size ≤ 9223372036854775807 := by
    rcases hb with ⟨e, rfl, rfl, rfl⟩ | ⟨e, rfl, rfl, rfl⟩
    · rw [e]; exact ⟨h.len, h.seen, h.cap, h.max, h.sizes⟩
    · rw [e]; exact ⟨rfl, Seen.nil _ _ _, Nat.le_refl _, by omega, by intro z hz; cases hz⟩
  have h2 : PIn w B y.pd D' m' d' := by
    rcases hp with ⟨e, rfl, rfl, rfl⟩ | ⟨e, rfl, rfl, rfl⟩
    · exact ⟨by rw [e]; exact h.pd.len, by rw [e]; exact h.pd.seen, h.pd.cap, h.pd.max⟩
    · exact ⟨by rw [e]; rfl, by rw [e]; exact Seen.nil _ _ _, Nat.le_refl _, by omega⟩
  have h3 : y.row.k.size ≤ 9223372036854775807 ∧ y.row.v.size ≤ 9223372036854775807 := by
    rcases hr with ⟨e1, e2⟩ | ⟨e1, e2⟩ <;> rw [e1, e2]
    · exact h.ksize
    · simp [ByteArray.size]
  exact ⟨h1.1, h1.2.1, h1.2.2.1, h1.2.2.2.1, h1.2.2.2.2, h3, h2⟩
theorem bare_no {x : En} (h : (x.kind == 0) = false ∧ (x.kind == 1) = false ∧ (x.kind == 2) = false ∧ (x.kind == 3) = false ∧ (x.kind == 4) = false ∧ (x.kind == 5) = false ∧ (x.kind == 6) = false) : x.bare = ⟨x.kind, noBt, false, 0, 0, noRw, noPd⟩ := by
  simp only [beq_eq_false_iff_ne] at h
  obtain ⟨h0, h1, h2, h3, h4, h5, h6⟩ := h
  simp [En.bare, h0, h1, h2, h3, h4, h5, h6]

set_option maxRecDepth 100000 in
set_option maxHeartbeats 2000000 in
theorem ref_bare_any (x : En) (A D : Option Addr) (n c m d B : Nat) (w : World) (hx : EIn w B x A n c D m d) (hB : B ≤ w.heap.size) :
    Calls Tryz.prog 35 #[.agg (evals x A n c D m d)] w (ERes w B x.bare) := by
  obtain ⟨kind, ⟨pid, ep, sq, tx, rs⟩, yes, nx, off, ⟨ro, rp, rq, rk, rv⟩, ⟨pp, pe, pn, sn⟩⟩ := x
  have HX := Lib.hid hx
  clear hx
  simp only [evals]
  obtain ⟨W0, hW0⟩ : ∃ W0, W0 = (w.alloc (.cells #[.int .i8 kind, .int .i64 pid, .int .i64 ep, .int .i64 sq, .bool tx, .slice A n c, .bool yes, .int .i64 nx, .int .i64 off, .int .i64 ro, .int .i64 rp, .int .i64 rq, .string rk, .string rv, .int .i64 pp, .int .i64 pe, .int .i64 pn, .slice D m d] 32)).alloc (.cells #[.int .i8 0, .int .i64 0, .int .i64 0, .int .i64 0, .bool false, .slice none 0 0, .bool false, .int .i64 0, .int .i64 0, .int .i64 0, .int .i64 0, .int .i64 0, .string ⟨#[]⟩, .string ⟨#[]⟩, .int .i64 0, .int .i64 0, .int .i64 0, .slice none 0 0] 32) := ⟨_, rfl⟩
  obtain ⟨v0, r0, b0⟩ := two_new w #[.int .i8 kind, .int .i64 pid, .int .i64 ep, .int .i64 sq, .bool tx, .slice A n c, .bool yes, .int .i64 nx, .int .i64 off, .int .i64 ro, .int .i64 rp, .int .i64 rq, .string rk, .string rv, .int .i64 pp, .int .i64 pe, .int .i64 pn, .slice D m d] #[.int .i8 0, .int .i64 0, .int .i64 0, .int .i64 0, .bool false, .slice none 0 0, .bool false, .int .i64 0, .int .i64 0, .int .i64 0, .int .i64 0, .int .i64 0, .string ⟨#[]⟩, .string ⟨#[]⟩, .int .i64 0, .int .i64 0, .int .i64 0, .slice none 0 0] 32
  rw [← hW0] at v0 r0 b0
  have g0 := v0.cell 0 rfl
  have z0 := v0.lt
  have z1 := r0.lt
  have HW0 := Lib.hid hW0
  clear hW0
  go_enter Tryz.func35, Tryz.ntmps35
  go_upto_region 1 with fail
  rw [← HW0.out]
  go_upto_region 2 with (refine wpList_store_var rfl _ _ rfl rfl rfl (Var.new W0 #[.int .i8 0, .int .i64 0, .int .i64 0, .int .i64 0, .bool false, .slice none 0 0, .bool false, .int .i64 0, .int .i64 0, .int .i64 0, .int .i64 0, .int .i64 0, .string ⟨#[]⟩, .string ⟨#[]⟩, .int .i64 0, .int .i64 0, .int .i64 0, .slice none 0 0] 32) rfl (by kernel_rfl) (by simp [Value.oneCell']) ?_; intro W1 v1 o1; refine wpList_at (C := fun W => Var W W0.heap.size 32 #[.int .i8 kind, .int .i64 0, .int .i64 0, .int .i64 0, .bool false, .slice none 0 0, .bool false, .int .i64 0, .int .i64 0, .int .i64 0, .int .i64 0, .int .i64 0, .string ⟨#[]⟩, .string ⟨#[]⟩, .int .i64 0, .int .i64 0, .int .i64 0, .slice none 0 0] ∧ Var W w.heap.size 32 #[.int .i8 kind, .int .i64 pid, .int .i64 ep, .int .i64 sq, .bool tx, .slice A n c, .bool yes, .int .i64 nx, .int .i64 off, .int .i64 ro, .int .i64 rp, .int .i64 rq, .string rk, .string rv, .int .i64 pp, .int .i64 pe, .int .i64 pn, .slice D m d] ∧ Var W (w.heap.size + 1) 32 #[.int .i8 0, .int .i64 0, .int .i64 0, .int .i64 0, .bool false, .slice none 0 0, .bool false, .int .i64 0, .int .i64 0, .int .i64 0, .int .i64 0, .int .i64 0, .string ⟨#[]⟩, .string ⟨#[]⟩, .int .i64 0, .int .i64 0, .int .i64 0, .slice none 0 0] ∧ Below w.heap.size w W) ⟨v1, o1.var (v0.alloc _) (by omega), o1.var (r0.alloc _) (by omega), Only.below (b0.alloc b0.size _) o1 (by omega)⟩ ?_; clear v1 o1 v0 r0 b0; rintro W1 ⟨v3, v0, r0, b0⟩)
  obtain ⟨x3, hx3⟩ : ∃ x3, x3 = W0.heap.size := ⟨_, rfl⟩
  rw [← hx3] at v3 z0 z1 ⊢
  clear hx3 HW0 g0
  obtain ⟨g0, g1, g2, g3, g4, g5, g6, g7, g8, g9, g10, g11, g12, g13, g14, g15, g16, g17, -⟩ := v0.cells18
  obtain ⟨q0, q1, q2, q3, q4, q5, q6, q7, q8, q9, q10, q11, q12, q13, q14, q15, q16, q17, f3⟩ := v3.cells18
  have y0' := v0.lt
  have y3' := v3.lt
  rcases kind_cases kind with rfl | rfl | rfl | rfl | rfl | rfl | rfl | ⟨y0, y1, y2, y3, y4, y5, y6⟩
  · go_upto_region 23 with fail
    have vN := (Var.set (Var.set (Var.set (Var.set (Var.set v3 1 (.int .i64 pid)) 2 (.int .i64 ep)) 3 (.int .i64 sq)) 4 (.bool tx)) 5 (.slice A n c))
    simp only [List.setIfInBounds_toArray, List.set_cons_succ, List.set_cons_zero] at vN
    refine wp_at (C := fun W => Var W x3 32 #[.int .i8 0, .int .i64 pid, .int .i64 ep, .int .i64 sq, .bool tx, .slice A n c, .bool false, .int .i64 0, .int .i64 0, .int .i64 0, .int .i64 0, .int .i64 0, .string ⟨#[]⟩, .string ⟨#[]⟩, .int .i64 0, .int .i64 0, .int .i64 0, .slice none 0 0] ∧ Var W (w.heap.size + 1) 32 #[.int .i8 0, .int .i64 0, .int .i64 0, .int .i64 0, .bool false, .slice none 0 0, .bool false, .int .i64 0, .int .i64 0, .int .i64 0, .int .i64 0, .int .i64 0, .string ⟨#[]⟩, .string ⟨#[]⟩, .int .i64 0, .int .i64 0, .int .i64 0, .slice none 0 0] ∧ Below w.heap.size w W) ⟨vN, (Var.other (Var.other (Var.other (Var.other (Var.other r0 1 (.int .i64 pid) (by omega)) 2 (.int .i64 ep) (by omega)) 3 (.int .i64 sq) (by omega)) 4 (.bool tx) (by omega)) 5 (.slice A n c) (by omega)), (Below.setCell (Below.setCell (Below.setCell (Below.setCell (Below.setCell b0 (by simp only; omega) (.int .i64 pid)) (by simp only; omega) (.int .i64 ep)) (by simp only; omega) (.int .i64 sq)) (by simp only; omega) (.bool tx)) (by simp only; omega) (.slice A n c))⟩ ?_
    clear vN g0 g1 g2 g3 g4 g5 g6 g7 g8 g9 g10 g11 g12 g13 g14 g15 g16 g17 q0 q1 q2 q3 q4 q5 q6 q7 q8 q9 q10 q11 q12 q13 q14 q15 q16 q17 f3 y0' y3' v0 v3 r0 b0
    rintro W2 ⟨v2, r2, b2⟩
    go_wp2_with (first | refine wpList_load_var rfl _ rfl Tryz.underlying32 rfl rfl v2 (by kernel_rfl) ?_ | (refine wpList_store_var rfl _ _ rfl rfl rfl r2 rfl (by kernel_rfl) (by simp [Value.oneCell']) ?_; intro W9 v9 o9))
    have b9 := Only.below b2 o9 (Nat.le_succ _)
    refine bodyPost_ret (results_var rfl rfl v9 Tryz.underlying32 rfl (by kernel_rfl)) rfl ?_
    exact ⟨A, n, c, none, 0, 0, rfl, (HX.out.below (b9.mono hB)).mk2 (.inl ⟨rfl, rfl, rfl, rfl⟩) (.inr ⟨rfl, rfl, rfl, rfl⟩) (.inr ⟨rfl, rfl⟩), b9⟩
  · go_upto_region 23 with fail
    have vN := (Var.set (Var.set (Var.set (Var.set (Var.set (Var.set v3 1 (.int .i64 pid)) 2 (.int .i64 ep)) 3 (.int .i64 0)) 4 (.bool false)) 5 (.slice none 0 0)) 6 (.bool yes))
    simp only [List.setIfInBounds_toArray, List.set_cons_succ, List.set_cons_zero] at vN
    refine wp_at (C := fun W => Var W x3 32 #[.int .i8 1, .int .i64 pid, .int .i64 ep, .int .i64 0, .bool false, .slice none 0 0, .bool yes, .int .i64 0, .int .i64 0, .int .i64 0, .int .i64 0, .int .i64 0, .string ⟨#[]⟩, .string ⟨#[]⟩, .int .i64 0, .int .i64 0, .int .i64 0, .slice none 0 0] ∧ Var W (w.heap.size + 1) 32 #[.int .i8 0, .int .i64 0, .int .i64 0, .int .i64 0, .bool false, .slice none 0 0, .bool false, .int .i64 0, .int .i64 0, .int .i64 0, .int .i64 0, .int .i64 0, .string ⟨#[]⟩, .string ⟨#[]⟩, .int .i64 0, .int .i64 0, .int .i64 0, .slice none 0 0] ∧ Below w.heap.size w W) ⟨vN, (Var.other (Var.other (Var.other (Var.other (Var.other (Var.other r0 1 (.int .i64 pid) (by omega)) 2 (.int .i64 ep) (by omega)) 3 (.int .i64 0) (by omega)) 4 (.bool false) (by omega)) 5 (.slice none 0 0) (by omega)) 6 (.bool yes) (by omega)), (Below.setCell (Below.setCell (Below.setCell (Below.setCell (Below.setCell (Below.setCell b0 (by simp only; omega) (.int .i64 pid)) (by simp only; omega) (.int .i64 ep)) (by simp only; omega) (.int .i64 0)) (by simp only; omega) (.bool false)) (by simp only; omega) (.slice none 0 0)) (by simp only; omega) (.bool yes))⟩ ?_
    clear vN g0 g1 g2 g3 g4 g5 g6 g7 g8 g9 g10 g11 g12 g13 g14 g15 g16 g17 q0 q1 q2 q3 q4 q5 q6 q7 q8 q9 q10 q11 q12 q13 q14 q15 q16 q17 f3 y0' y3' v0 v3 r0 b0
    rintro W2 ⟨v2, r2, b2⟩
    go_wp2_with (first | refine wpList_load_var rfl _ rfl Tryz.underlying32 rfl rfl v2 (by kernel_rfl) ?_ | (refine wpList_store_var rfl _ _ rfl rfl rfl r2 rfl (by kernel_rfl) (by simp [Value.oneCell']) ?_; intro W9 v9 o9))
    have b9 := Only.below b2 o9 (Nat.le_succ _)
    refine bodyPost_ret (results_var rfl rfl v9 Tryz.underlying32 rfl (by kernel_rfl)) rfl ?_
    exact ⟨none, 0, 0, none, 0, 0, rfl, (HX.out.below (b9.mono hB)).mk2 (.inr ⟨rfl, rfl, rfl, rfl⟩) (.inr ⟨rfl, rfl, rfl, rfl⟩) (.inr ⟨rfl, rfl⟩), b9⟩
  · go_upto_region 23 with fail
    have vN := (Var.set v3 8 (.int .i64 off))
    simp only [List.setIfInBounds_toArray, List.set_cons_succ, List.set_cons_zero] at vN
    refine wp_at (C := fun W => Var W x3 32 #[.int .i8 2, .int .i64 0, .int .i64 0, .int .i64 0, .bool false, .slice none 0 0, .bool false, .int .i64 0, .int .i64 off, .int .i64 0, .int .i64 0, .int .i64 0, .string ⟨#[]⟩, .string ⟨#[]⟩, .int .i64 0, .int .i64 0, .int .i64 0, .slice none 0 0] ∧ Var W (w.heap.size + 1) 32 #[.int .i8 0, .int .i64 0, .int .i64 0, .int .i64 0, .bool false, .slice none 0 0, .bool false, .int .i64 0, .int .i64 0, .int .i64 0, .int .i64 0, .int .i64 0, .string ⟨#[]⟩, .string ⟨#[]⟩, .int .i64 0, .int .i64 0, .int .i64 0, .slice none 0 0] ∧ Below w.heap.size w W) ⟨vN, (Var.other r0 8 (.int .i64 off) (by omega)), (Below.setCell b0 (by simp only; omega) (.int .i64 off))⟩ ?_
    clear vN g0 g1 g2 g3 g4 g5 g6 g7 g8 g9 g10 g11 g12 g13 g14 g15 g16 g17 q0 q1 q2 q3 q4 q5 q6 q7 q8 q9 q10 q11 q12 q13 q14 q15 q16 q17 f3 y0' y3' v0 v3 r0 b0
    rintro W2 ⟨v2, r2, b2⟩
    go_wp2_with (first | refine wpList_load_var rfl _ rfl Tryz.underlying32 rfl rfl v2 (by kernel_rfl) ?_ | (refine wpList_store_var rfl _ _ rfl rfl rfl r2 rfl (by kernel_rfl) (by simp [Value.oneCell']) ?_; intro W9 v9 o9))
    have b9 := Only.below b2 o9 (Nat.le_succ _)
    refine bodyPost_ret (results_var rfl rfl v9 Tryz.underlying32 rfl (by kernel_rfl)) rfl ?_
    exact ⟨none, 0, 0, none, 0, 0, rfl, (HX.out.below (b9.mono hB)).mk2 (.inr ⟨rfl, rfl, rfl, rfl⟩) (.inr ⟨rfl, rfl, rfl, rfl⟩) (.inr ⟨rfl, rfl⟩), b9⟩
  · cases yes with
    | true =>
      go_upto_region 23 with fail
      have vN := (Var.set (Var.set (Var.set (Var.set (Var.set (Var.set (Var.set v3 1 (.int .i64 pid)) 2 (.int .i64 ep)) 3 (.int .i64 sq)) 4 (.bool tx)) 5 (.slice A n c)) 6 (.bool true)) 7 (.int .i64 nx))
      simp only [List.setIfInBounds_toArray, List.set_cons_succ, List.set_cons_zero] at vN
      refine wp_at (C := fun W => Var W x3 32 #[.int .i8 3, .int .i64 pid, .int .i64 ep, .int .i64 sq, .bool tx, .slice A n c, .bool true, .int .i64 nx, .int .i64 0, .int .i64 0, .int .i64 0, .int .i64 0, .string ⟨#[]⟩, .string ⟨#[]⟩, .int .i64 0, .int .i64 0, .int .i64 0, .slice none 0 0] ∧ Var W (w.heap.size + 1) 32 #[.int .i8 0, .int .i64 0, .int .i64 0, .int .i64 0, .bool false, .slice none 0 0, .bool false, .int .i64 0, .int .i64 0, .int .i64 0, .int .i64 0, .int .i64 0, .string ⟨#[]⟩, .string ⟨#[]⟩, .int .i64 0, .int .i64 0, .int .i64 0, .slice none 0 0] ∧ Below w.heap.size w W) ⟨vN, (Var.other (Var.other (Var.other (Var.other (Var.other (Var.other (Var.other r0 1 (.int .i64 pid) (by omega)) 2 (.int .i64 ep) (by omega)) 3 (.int .i64 sq) (by omega)) 4 (.bool tx) (by omega)) 5 (.slice A n c) (by omega)) 6 (.bool true) (by omega)) 7 (.int .i64 nx) (by omega)), (Below.setCell (Below.setCell (Below.setCell (Below.setCell (Below.setCell (Below.setCell (Below.setCell b0 (by simp only; omega) (.int .i64 pid)) (by simp only; omega) (.int .i64 ep)) (by simp only; omega) (.int .i64 sq)) (by simp only; omega) (.bool tx)) (by simp only; omega) (.slice A n c)) (by simp only; omega) (.bool true)) (by simp only; omega) (.int .i64 nx))⟩ ?_
      clear vN g0 g1 g2 g3 g4 g5 g6 g7 g8 g9 g10 g11 g12 g13 g14 g15 g16 g17 q0 q1 q2 q3 q4 q5 q6 q7 q8 q9 q10 q11 q12 q13 q14 q15 q16 q17 f3 y0' y3' v0 v3 r0 b0
      rintro W2 ⟨v2, r2, b2⟩
      go_wp2_with (first | refine wpList_load_var rfl _ rfl Tryz.underlying32 rfl rfl v2 (by kernel_rfl) ?_ | (refine wpList_store_var rfl _ _ rfl rfl rfl r2 rfl (by kernel_rfl) (by simp [Value.oneCell']) ?_; intro W9 v9 o9))
      have b9 := Only.below b2 o9 (Nat.le_succ _)
      refine bodyPost_ret (results_var rfl rfl v9 Tryz.underlying32 rfl (by kernel_rfl)) rfl ?_
      exact ⟨A, n, c, none, 0, 0, rfl, (HX.out.below (b9.mono hB)).mk2 (.inl ⟨rfl, rfl, rfl, rfl⟩) (.inr ⟨rfl, rfl, rfl, rfl⟩) (.inr ⟨rfl, rfl⟩), b9⟩
    | false =>
      go_upto_region 23 with fail
      have vN := (Var.set (Var.set (Var.set (Var.set (Var.set (Var.set v3 1 (.int .i64 pid)) 2 (.int .i64 ep)) 3 (.int .i64 sq)) 4 (.bool tx)) 5 (.slice A n c)) 6 (.bool false))
      simp only [List.setIfInBounds_toArray, List.set_cons_succ, List.set_cons_zero] at vN
      refine wp_at (C := fun W => Var W x3 32 #[.int .i8 3, .int .i64 pid, .int .i64 ep, .int .i64 sq, .bool tx, .slice A n c, .bool false, .int .i64 0, .int .i64 0, .int .i64 0, .int .i64 0, .int .i64 0, .string ⟨#[]⟩, .string ⟨#[]⟩, .int .i64 0, .int .i64 0, .int .i64 0, .slice none 0 0] ∧ Var W (w.heap.size + 1) 32 #[.int .i8 0, .int .i64 0, .int .i64 0, .int .i64 0, .bool false, .slice none 0 0, .bool false, .int .i64 0, .int .i64 0, .int .i64 0, .int .i64 0, .int .i64 0, .string ⟨#[]⟩, .string ⟨#[]⟩, .int .i64 0, .int .i64 0, .int .i64 0, .slice none 0 0] ∧ Below w.heap.size w W) ⟨vN, (Var.other (Var.other (Var.other (Var.other (Var.other (Var.other r0 1 (.int .i64 pid) (by omega)) 2 (.int .i64 ep) (by omega)) 3 (.int .i64 sq) (by omega)) 4 (.bool tx) (by omega)) 5 (.slice A n c) (by omega)) 6 (.bool false) (by omega)), (Below.setCell (Below.setCell (Below.setCell (Below.setCell (Below.setCell (Below.setCell b0 (by simp only; omega) (.int .i64 pid)) (by simp only; omega) (.int .i64 ep)) (by simp only; omega) (.int .i64 sq)) (by simp only; omega) (.bool tx)) (by simp only; omega) (.slice A n c)) (by simp only; omega) (.bool false))⟩ ?_
      clear vN g0 g1 g2 g3 g4 g5 g6 g7 g8 g9 g10 g11 g12 g13 g14 g15 g16 g17 q0 q1 q2 q3 q4 q5 q6 q7 q8 q9 q10 q11 q12 q13 q14 q15 q16 q17 f3 y0' y3' v0 v3 r0 b0
      rintro W2 ⟨v2, r2, b2⟩
      go_wp2_with (first | refine wpList_load_var rfl _ rfl Tryz.underlying32 rfl rfl v2 (by kernel_rfl) ?_ | (refine wpList_store_var rfl _ _ rfl rfl rfl r2 rfl (by kernel_rfl) (by simp [Value.oneCell']) ?_; intro W9 v9 o9))
      have b9 := Only.below b2 o9 (Nat.le_succ _)
      refine bodyPost_ret (results_var rfl rfl v9 Tryz.underlying32 rfl (by kernel_rfl)) rfl ?_
      exact ⟨A, n, c, none, 0, 0, rfl, (HX.out.below (b9.mono hB)).mk2 (.inl ⟨rfl, rfl, rfl, rfl⟩) (.inr ⟨rfl, rfl, rfl, rfl⟩) (.inr ⟨rfl, rfl⟩), b9⟩
  · go_upto_region 23 with fail
    have vN := (Var.set (Var.set (Var.set (Var.set (Var.set (Var.set v3 1 (.int .i64 pid)) 2 (.int .i64 ep)) 3 (.int .i64 0)) 4 (.bool false)) 5 (.slice none 0 0)) 7 (.int .i64 nx))
    simp only [List.setIfInBounds_toArray, List.set_cons_succ, List.set_cons_zero] at vN
    refine wp_at (C := fun W => Var W x3 32 #[.int .i8 4, .int .i64 pid, .int .i64 ep, .int .i64 0, .bool false, .slice none 0 0, .bool false, .int .i64 nx, .int .i64 0, .int .i64 0, .int .i64 0, .int .i64 0, .string ⟨#[]⟩, .string ⟨#[]⟩, .int .i64 0, .int .i64 0, .int .i64 0, .slice none 0 0] ∧ Var W (w.heap.size + 1) 32 #[.int .i8 0, .int .i64 0, .int .i64 0, .int .i64 0, .bool false, .slice none 0 0, .bool false, .int .i64 0, .int .i64 0, .int .i64 0, .int .i64 0, .int .i64 0, .string ⟨#[]⟩, .string ⟨#[]⟩, .int .i64 0, .int .i64 0, .int .i64 0, .slice none 0 0] ∧ Below w.heap.size w W) ⟨vN, (Var.other (Var.other (Var.other (Var.other (Var.other (Var.other r0 1 (.int .i64 pid) (by omega)) 2 (.int .i64 ep) (by omega)) 3 (.int .i64 0) (by omega)) 4 (.bool false) (by omega)) 5 (.slice none 0 0) (by omega)) 7 (.int .i64 nx) (by omega)), (Below.setCell (Below.setCell (Below.setCell (Below.setCell (Below.setCell (Below.setCell b0 (by simp only; omega) (.int .i64 pid)) (by simp only; omega) (.int .i64 ep)) (by simp only; omega) (.int .i64 0)) (by simp only; omega) (.bool false)) (by simp only; omega) (.slice none 0 0)) (by simp only; omega) (.int .i64 nx))⟩ ?_
    clear vN g0 g1 g2 g3 g4 g5 g6 g7 g8 g9 g10 g11 g12 g13 g14 g15 g16 g17 q0 q1 q2 q3 q4 q5 q6 q7 q8 q9 q10 q11 q12 q13 q14 q15 q16 q17 f3 y0' y3' v0 v3 r0 b0
    rintro W2 ⟨v2, r2, b2⟩
    go_wp2_with (first | refine wpList_load_var rfl _ rfl Tryz.underlying32 rfl rfl v2 (by kernel_rfl) ?_ | (refine wpList_store_var rfl _ _ rfl rfl rfl r2 rfl (by kernel_rfl) (by simp [Value.oneCell']) ?_; intro W9 v9 o9))
    have b9 := Only.below b2 o9 (Nat.le_succ _)
    refine bodyPost_ret (results_var rfl rfl v9 Tryz.underlying32 rfl (by kernel_rfl)) rfl ?_
    exact ⟨none, 0, 0, none, 0, 0, rfl, (HX.out.below (b9.mono hB)).mk2 (.inr ⟨rfl, rfl, rfl, rfl⟩) (.inr ⟨rfl, rfl, rfl, rfl⟩) (.inr ⟨rfl, rfl⟩), b9⟩
  · go_upto_region 23 with fail
    have vN := (Var.set (Var.set (Var.set (Var.set (Var.set (Var.set v3 9 (.int .i64 ro)) 10 (.int .i64 rp)) 11 (.int .i64 rq)) 12 (.string rk)) 13 (.string rv)) 9 (.int .i64 0))
    simp only [List.setIfInBounds_toArray, List.set_cons_succ, List.set_cons_zero] at vN
    refine wp_at (C := fun W => Var W x3 32 #[.int .i8 5, .int .i64 0, .int .i64 0, .int .i64 0, .bool false, .slice none 0 0, .bool false, .int .i64 0, .int .i64 0, .int .i64 0, .int .i64 rp, .int .i64 rq, .string rk, .string rv, .int .i64 0, .int .i64 0, .int .i64 0, .slice none 0 0] ∧ Var W (w.heap.size + 1) 32 #[.int .i8 0, .int .i64 0, .int .i64 0, .int .i64 0, .bool false, .slice none 0 0, .bool false, .int .i64 0, .int .i64 0, .int .i64 0, .int .i64 0, .int .i64 0, .string ⟨#[]⟩, .string ⟨#[]⟩, .int .i64 0, .int .i64 0, .int .i64 0, .slice none 0 0] ∧ Below w.heap.size w W) ⟨vN, (Var.other (Var.other (Var.other (Var.other (Var.other (Var.other r0 9 (.int .i64 ro) (by omega)) 10 (.int .i64 rp) (by omega)) 11 (.int .i64 rq) (by omega)) 12 (.string rk) (by omega)) 13 (.string rv) (by omega)) 9 (.int .i64 0) (by omega)), (Below.setCell (Below.setCell (Below.setCell (Below.setCell (Below.setCell (Below.setCell b0 (by simp only; omega) (.int .i64 ro)) (by simp only; omega) (.int .i64 rp)) (by simp only; omega) (.int .i64 rq)) (by simp only; omega) (.string rk)) (by simp only; omega) (.string rv)) (by simp only; omega) (.int .i64 0))⟩ ?_
    clear vN g0 g1 g2 g3 g4 g5 g6 g7 g8 g9 g10 g11 g12 g13 g14 g15 g16 g17 q0 q1 q2 q3 q4 q5 q6 q7 q8 q9 q10 q11 q12 q13 q14 q15 q16 q17 f3 y0' y3' v0 v3 r0 b0
    rintro W2 ⟨v2, r2, b2⟩
    go_wp2_with (first | refine wpList_load_var rfl _ rfl Tryz.underlying32 rfl rfl v2 (by kernel_rfl) ?_ | (refine wpList_store_var rfl _ _ rfl rfl rfl r2 rfl (by kernel_rfl) (by simp [Value.oneCell']) ?_; intro W9 v9 o9))
    have b9 := Only.below b2 o9 (Nat.le_succ _)
    refine bodyPost_ret (results_var rfl rfl v9 Tryz.underlying32 rfl (by kernel_rfl)) rfl ?_
    exact ⟨none, 0, 0, none, 0, 0, rfl, (HX.out.below (b9.mono hB)).mk2 (.inr ⟨rfl, rfl, rfl, rfl⟩) (.inr ⟨rfl, rfl, rfl, rfl⟩) (.inl ⟨rfl, rfl⟩), b9⟩
  · go_upto_region 23 with fail
    have vN := (Var.set (Var.set (Var.set (Var.set v3 14 (.int .i64 pp)) 15 (.int .i64 pe)) 16 (.int .i64 pn)) 17 (.slice D m d))
    simp only [List.setIfInBounds_toArray, List.set_cons_succ, List.set_cons_zero] at vN
    refine wp_at (C := fun W => Var W x3 32 #[.int .i8 6, .int .i64 0, .int .i64 0, .int .i64 0, .bool false, .slice none 0 0, .bool false, .int .i64 0, .int .i64 0, .int .i64 0, .int .i64 0, .int .i64 0, .string ⟨#[]⟩, .string ⟨#[]⟩, .int .i64 pp, .int .i64 pe, .int .i64 pn, .slice D m d] ∧ Var W (w.heap.size + 1) 32 #[.int .i8 0, .int .i64 0, .int .i64 0, .int .i64 0, .bool false, .slice none 0 0, .bool false, .int .i64 0, .int .i64 0, .int .i64 0, .int .i64 0, .int .i64 0, .string ⟨#[]⟩, .string ⟨#[]⟩, .int .i64 0, .int .i64 0, .int .i64 0, .slice none 0 0] ∧ Below w.heap.size w W) ⟨vN, (Var.other (Var.other (Var.other (Var.other r0 14 (.int .i64 pp) (by omega)) 15 (.int .i64 pe) (by omega)) 16 (.int .i64 pn) (by omega)) 17 (.slice D m d) (by omega)), (Below.setCell (Below.setCell (Below.setCell (Below.setCell b0 (by simp only; omega) (.int .i64 pp)) (by simp only; omega) (.int .i64 pe)) (by simp only; omega) (.int .i64 pn)) (by simp only; omega) (.slice D m d))⟩ ?_
    clear vN g0 g1 g2 g3 g4 g5 g6 g7 g8 g9 g10 g11 g12 g13 g14 g15 g16 g17 q0 q1 q2 q3 q4 q5 q6 q7 q8 q9 q10 q11 q12 q13 q14 q15 q16 q17 f3 y0' y3' v0 v3 r0 b0
    rintro W2 ⟨v2, r2, b2⟩
    go_wp2_with (first | refine wpList_load_var rfl _ rfl Tryz.underlying32 rfl rfl v2 (by kernel_rfl) ?_ | (refine wpList_store_var rfl _ _ rfl rfl rfl r2 rfl (by kernel_rfl) (by simp [Value.oneCell']) ?_; intro W9 v9 o9))
    have b9 := Only.below b2 o9 (Nat.le_succ _)
    refine bodyPost_ret (results_var rfl rfl v9 Tryz.underlying32 rfl (by kernel_rfl)) rfl ?_
    exact ⟨none, 0, 0, D, m, d, rfl, (HX.out.below (b9.mono hB)).mk2 (.inr ⟨rfl, rfl, rfl, rfl⟩) (.inl ⟨rfl, rfl, rfl, rfl⟩) (.inr ⟨rfl, rfl⟩), b9⟩
  · go_upto_region 23 with fail
    have vN := v3
    refine wp_at (C := fun W => Var W x3 32 #[.int .i8 kind, .int .i64 0, .int .i64 0, .int .i64 0, .bool false, .slice none 0 0, .bool false, .int .i64 0, .int .i64 0, .int .i64 0, .int .i64 0, .int .i64 0, .string ⟨#[]⟩, .string ⟨#[]⟩, .int .i64 0, .int .i64 0, .int .i64 0, .slice none 0 0] ∧ Var W (w.heap.size + 1) 32 #[.int .i8 0, .int .i64 0, .int .i64 0, .int .i64 0, .bool false, .slice none 0 0, .bool false, .int .i64 0, .int .i64 0, .int .i64 0, .int .i64 0, .int .i64 0, .string ⟨#[]⟩, .string ⟨#[]⟩, .int .i64 0, .int .i64 0, .int .i64 0, .slice none 0 0] ∧ Below w.heap.size w W) ⟨vN, r0, b0⟩ ?_
    clear vN g0 g1 g2 g3 g4 g5 g6 g7 g8 g9 g10 g11 g12 g13 g14 g15 g16 g17 q0 q1 q2 q3 q4 q5 q6 q7 q8 q9 q10 q11 q12 q13 q14 q15 q16 q17 f3 y0' y3' v0 v3 r0 b0
    rintro W2 ⟨v2, r2, b2⟩
    go_wp2_with (first | refine wpList_load_var rfl _ rfl Tryz.underlying32 rfl rfl v2 (by kernel_rfl) ?_ | (refine wpList_store_var rfl _ _ rfl rfl rfl r2 rfl (by kernel_rfl) (by simp [Value.oneCell']) ?_; intro W9 v9 o9))
    have b9 := Only.below b2 o9 (Nat.le_succ _)
    refine bodyPost_ret (results_var rfl rfl v9 Tryz.underlying32 rfl (by kernel_rfl)) rfl ?_
    rw [bare_no ⟨y0, y1, y2, y3, y4, y5, y6⟩]
    exact ⟨none, 0, 0, none, 0, 0, rfl, (HX.out.below (b9.mono hB)).mk2 (.inr ⟨rfl, rfl, rfl, rfl⟩) (.inr ⟨rfl, rfl, rfl, rfl⟩) (.inr ⟨rfl, rfl⟩), b9⟩
end Go.Proofs.YtchpemgamgcbkaaGreat
