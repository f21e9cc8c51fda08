/-
  Contract of entry's rest: what it returns and what it does to memory. Conditions: those that the theorem names.
-/
import Derived.Test.YtchpemgamgcbkaaGreatEntRight
import Derived.Test.YtchpemgamgcbkaaGreatEntStore
import Derived.Test.YtchpemgamgcbkaaGreatRecSame
namespace Go.Proofs.YtchpemgamgcbkaaGreat
open Go.RowKit

/-- What an entry that is returned is. -/
def ERes (w : World) (B : Nat) (x : En) (e : Ending) (w' : World) : Prop := ∃ A n c D m d, e = .returned (.agg (evals x A n c D m d)) ∧ EIn w' B x A n c D m d ∧ Below w.heap.size w w'
theorem EIn.noRecs {w : World} {B : Nat} {x y : En} {A D : Option Addr} {n c m d : Nat} (h : EIn w B x A n c D m d) (hb : y.b.rs = []) (hr : y.row = x.row) (hp : y.pd = x.pd) : EIn w B y none 0 0 D m d :=
  ⟨by rw [hb]; rfl, by rw [hb]; exact Seen.nil _ _ _, Nat.le_refl _, by omega, (by rw [hb]; intro z hz; cases hz), by rw [hr]; exact h.ksize, by rw [hp]; exact h.pd⟩
theorem EIn.noSeen {w : World} {B : Nat} {x y : En} {A D : Option Addr} {n c m d : Nat} (h : EIn w B x A n c D m d) (hb : y.b.rs = x.b.rs) (hr : y.row = x.row) (hp : y.pd.sn = []) : EIn w B y A n c none 0 0 :=
  ⟨by rw [hb]; exact h.len, by rw [hb]; exact h.seen, h.cap, h.max, fun z hz => by rw [hb] at hz; exact h.sizes z hz, by rw [hr]; exact h.ksize, ⟨by rw [hp]; rfl, by rw [hp]; exact Seen.nil _ _ _, Nat.le_refl _, by omega⟩⟩
theorem EIn.alike {w : World} {B : Nat} {x y : En} {A D : Option Addr} {n c m d : Nat} (h : EIn w B x A n c D m d) (hb : y.b.rs = x.b.rs) (hr : y.row.k = x.row.k ∧ y.row.v = x.row.v) (hp : y.pd = x.pd) : EIn w B y A n c D m d :=
  ⟨by rw [hb]; exact h.len, by rw [hb]; exact h.seen, h.cap, h.max, fun z hz => by rw [hb] at hz; exact h.sizes z hz, by rw [hr.1, hr.2]; exact h.ksize, by rw [hp]; exact h.pd⟩
theorem EIn.noRow {w : World} {B : Nat} {x y : En} {A D : Option Addr} {n c m d : Nat} (h : EIn w B x A n c D m d) (hb : y.b.rs = x.b.rs) (hr : y.row.k = ⟨#[]⟩ ∧ y.row.v = ⟨#[]⟩) (hp : y.pd = x.pd) : EIn w B y A n c D m d :=
  ⟨by rw [hb]; exact h.len, by rw [hb]; exact h.seen, h.cap, h.max, fun z hz => by rw [hb] at hz; exact h.sizes z hz, by rw [hr.1, hr.2]; exact ⟨by simp [ByteArray.size], by simp [ByteArray.size]⟩, by rw [hp]; exact h.pd⟩

theorem rest_no {x : En} (h : (x.kind == 0) = false ∧ (x.kind == 1) = false ∧ (x.kind == 2) = false ∧ (x.kind == 3) = false ∧ (x.kind == 4) = false ∧ (x.kind == 5) = false ∧ (x.kind == 6) = false) : x.rest = ⟨0, x.b, x.yes, x.nx, x.off, x.row, x.pd⟩ := by
  simp only [beq_eq_false_iff_ne] at h
  obtain ⟨h0, h1, h2, h3, h4, h5, h6⟩ := h
  simp [En.rest, h0, h1, h2, h3, h4, h5, h6]
set_option maxRecDepth 100000 in
set_option maxHeartbeats 1000000 in
theorem rest_any (x : En) (A D : Option Addr) (n c m d B : Nat) (w : World) (hx : EIn w B x A n c D m d) (hB : B ≤ w.heap.size) :
    Calls Tryz.prog 34 #[.agg (evals x A n c D m d)] w (ERes w B x.rest) := by
  obtain ⟨kind, ⟨pid, ep, sq, tx, rs⟩, yes, nx, off, ⟨ro, rp, rq, rk, rv⟩, ⟨pp, pe, pn, sn⟩⟩ := x
  have HX := Lib.hid hx
  clear hx
  simp only [evals]
  obtain ⟨W0, hW0⟩ : ∃ W0, W0 = (w.alloc (.cells #[.int .i8 kind, .int .i64 pid, .int .i64 ep, .int .i64 sq, .bool tx, .slice A n c, .bool yes, .int .i64 nx, .int .i64 off, .int .i64 ro, .int .i64 rp, .int .i64 rq, .string rk, .string rv, .int .i64 pp, .int .i64 pe, .int .i64 pn, .slice D m d] 32)).alloc (.cells #[.int .i8 0, .int .i64 0, .int .i64 0, .int .i64 0, .bool false, .slice none 0 0, .bool false, .int .i64 0, .int .i64 0, .int .i64 0, .int .i64 0, .int .i64 0, .string ⟨#[]⟩, .string ⟨#[]⟩, .int .i64 0, .int .i64 0, .int .i64 0, .slice none 0 0] 32) := ⟨_, rfl⟩
  obtain ⟨v0, r0, b0⟩ := two_new w #[.int .i8 kind, .int .i64 pid, .int .i64 ep, .int .i64 sq, .bool tx, .slice A n c, .bool yes, .int .i64 nx, .int .i64 off, .int .i64 ro, .int .i64 rp, .int .i64 rq, .string rk, .string rv, .int .i64 pp, .int .i64 pe, .int .i64 pn, .slice D m d] #[.int .i8 0, .int .i64 0, .int .i64 0, .int .i64 0, .bool false, .slice none 0 0, .bool false, .int .i64 0, .int .i64 0, .int .i64 0, .int .i64 0, .int .i64 0, .string ⟨#[]⟩, .string ⟨#[]⟩, .int .i64 0, .int .i64 0, .int .i64 0, .slice none 0 0] 32
  rw [← hW0] at v0 r0 b0
  obtain ⟨g, hg⟩ : ∃ g, g = w.heap.size := ⟨_, rfl⟩
  have hgg : g ≤ w.heap.size := by omega
  obtain ⟨g0, g1, g2, g3, g4, g5, g6, g7, g8, g9, g10, g11, g12, g13, g14, g15, g16, g17, f0⟩ := v0.cells18
  have z0 := v0.lt
  have HW0 := Lib.hid hW0
  clear hW0
  rcases kind_cases kind with rfl | rfl | rfl | rfl | rfl | rfl | rfl | ⟨y0, y1, y2, y3, y4, y5, y6⟩
  · go_enter Tryz.func34, Tryz.ntmps34
    go_upto_region 1 with fail
    rw [← HW0.out]
    go_upto_region 18 with fail
    go_upto_region 19 with fail
    have vN := (Var.set (Var.set (Var.set (Var.set (Var.set (Var.set v0 1 (.int .i64 0)) 2 (.int .i64 0)) 3 (.int .i64 0)) 4 (.bool false)) 5 (.slice none 0 0)) 0 (.int .i8 0))
    simp only [List.setIfInBounds_toArray, List.set_cons_succ, List.set_cons_zero] at vN
    refine wp_at (C := fun W => Var W w.heap.size 32 #[.int .i8 0, .int .i64 0, .int .i64 0, .int .i64 0, .bool false, .slice none 0 0, .bool yes, .int .i64 nx, .int .i64 off, .int .i64 ro, .int .i64 rp, .int .i64 rq, .string rk, .string rv, .int .i64 pp, .int .i64 pe, .int .i64 pn, .slice D m d] ∧ Var W (w.heap.size + 1) 32 #[.int .i8 0, .int .i64 0, .int .i64 0, .int .i64 0, .bool false, .slice none 0 0, .bool false, .int .i64 0, .int .i64 0, .int .i64 0, .int .i64 0, .int .i64 0, .string ⟨#[]⟩, .string ⟨#[]⟩, .int .i64 0, .int .i64 0, .int .i64 0, .slice none 0 0] ∧ Below w.heap.size w W) ⟨vN, (Var.other (Var.other (Var.other (Var.other (Var.other (Var.other r0 1 (.int .i64 0) (by omega)) 2 (.int .i64 0) (by omega)) 3 (.int .i64 0) (by omega)) 4 (.bool false) (by omega)) 5 (.slice none 0 0) (by omega)) 0 (.int .i8 0) (by omega)), (Below.setCell (Below.setCell (Below.setCell (Below.setCell (Below.setCell (Below.setCell b0 (Nat.le_refl _) (.int .i64 0)) (Nat.le_refl _) (.int .i64 0)) (Nat.le_refl _) (.int .i64 0)) (Nat.le_refl _) (.bool false)) (Nat.le_refl _) (.slice none 0 0)) (Nat.le_refl _) (.int .i8 0))⟩ ?_
    clear vN
    clear g0 g1 g2 g3 g4 g5 g6 g7 g8 g9 g10 g11 g12 g13 g14 g15 g16 g17 f0 z0
    rintro W2 ⟨v2, r2, b2⟩
    go_wp2_with (first | refine wpList_load_var rfl _ rfl Tryz.underlying32 rfl rfl v2 (by kernel_rfl) ?_ | (refine wpList_store_var rfl _ _ rfl rfl rfl r2 rfl (by kernel_rfl) (by simp [Value.oneCell']) ?_; intro W9 v9 o9))
    have b9 := Only.below b2 o9 (Nat.le_succ _)
    refine bodyPost_ret (results_var rfl rfl v9 Tryz.underlying32 rfl (by kernel_rfl)) rfl ?_
    exact ⟨none, 0, 0, D, m, d, rfl, EIn.noRecs (HX.out.below (b9.mono hB)) rfl rfl rfl, b9⟩
  · go_enter Tryz.func34, Tryz.ntmps34
    go_upto_region 1 with fail
    rw [← HW0.out]
    go_upto_region 18 with fail
    go_upto_region 19 with fail
    have vN := (Var.set (Var.set (Var.set (Var.set v0 1 (.int .i64 0)) 2 (.int .i64 0)) 6 (.bool false)) 0 (.int .i8 0))
    simp only [List.setIfInBounds_toArray, List.set_cons_succ, List.set_cons_zero] at vN
    refine wp_at (C := fun W => Var W w.heap.size 32 #[.int .i8 0, .int .i64 0, .int .i64 0, .int .i64 sq, .bool tx, .slice A n c, .bool false, .int .i64 nx, .int .i64 off, .int .i64 ro, .int .i64 rp, .int .i64 rq, .string rk, .string rv, .int .i64 pp, .int .i64 pe, .int .i64 pn, .slice D m d] ∧ Var W (w.heap.size + 1) 32 #[.int .i8 0, .int .i64 0, .int .i64 0, .int .i64 0, .bool false, .slice none 0 0, .bool false, .int .i64 0, .int .i64 0, .int .i64 0, .int .i64 0, .int .i64 0, .string ⟨#[]⟩, .string ⟨#[]⟩, .int .i64 0, .int .i64 0, .int .i64 0, .slice none 0 0] ∧ Below w.heap.size w W) ⟨vN, (Var.other (Var.other (Var.other (Var.other r0 1 (.int .i64 0) (by omega)) 2 (.int .i64 0) (by omega)) 6 (.bool false) (by omega)) 0 (.int .i8 0) (by omega)), (Below.setCell (Below.setCell (Below.setCell (Below.setCell b0 (Nat.le_refl _) (.int .i64 0)) (Nat.le_refl _) (.int .i64 0)) (Nat.le_refl _) (.bool false)) (Nat.le_refl _) (.int .i8 0))⟩ ?_
    clear vN
    clear g0 g1 g2 g3 g4 g5 g6 g7 g8 g9 g10 g11 g12 g13 g14 g15 g16 g17 f0 z0
    rintro W2 ⟨v2, r2, b2⟩
    go_wp2_with (first | refine wpList_load_var rfl _ rfl Tryz.underlying32 rfl rfl v2 (by kernel_rfl) ?_ | (refine wpList_store_var rfl _ _ rfl rfl rfl r2 rfl (by kernel_rfl) (by simp [Value.oneCell']) ?_; intro W9 v9 o9))
    have b9 := Only.below b2 o9 (Nat.le_succ _)
    refine bodyPost_ret (results_var rfl rfl v9 Tryz.underlying32 rfl (by kernel_rfl)) rfl ?_
    exact ⟨A, n, c, D, m, d, rfl, EIn.alike (HX.out.below (b9.mono hB)) rfl ⟨rfl, rfl⟩ rfl, b9⟩
  · go_enter Tryz.func34, Tryz.ntmps34
    go_upto_region 1 with fail
    rw [← HW0.out]
    go_upto_region 18 with fail
    go_upto_region 19 with fail
    have vN := (Var.set (Var.set v0 8 (.int .i64 0)) 0 (.int .i8 0))
    simp only [List.setIfInBounds_toArray, List.set_cons_succ, List.set_cons_zero] at vN
    refine wp_at (C := fun W => Var W w.heap.size 32 #[.int .i8 0, .int .i64 pid, .int .i64 ep, .int .i64 sq, .bool tx, .slice A n c, .bool yes, .int .i64 nx, .int .i64 0, .int .i64 ro, .int .i64 rp, .int .i64 rq, .string rk, .string rv, .int .i64 pp, .int .i64 pe, .int .i64 pn, .slice D m d] ∧ Var W (w.heap.size + 1) 32 #[.int .i8 0, .int .i64 0, .int .i64 0, .int .i64 0, .bool false, .slice none 0 0, .bool false, .int .i64 0, .int .i64 0, .int .i64 0, .int .i64 0, .int .i64 0, .string ⟨#[]⟩, .string ⟨#[]⟩, .int .i64 0, .int .i64 0, .int .i64 0, .slice none 0 0] ∧ Below w.heap.size w W) ⟨vN, (Var.other (Var.other r0 8 (.int .i64 0) (by omega)) 0 (.int .i8 0) (by omega)), (Below.setCell (Below.setCell b0 (Nat.le_refl _) (.int .i64 0)) (Nat.le_refl _) (.int .i8 0))⟩ ?_
    clear vN
    clear g0 g1 g2 g3 g4 g5 g6 g7 g8 g9 g10 g11 g12 g13 g14 g15 g16 g17 f0 z0
    rintro W2 ⟨v2, r2, b2⟩
    go_wp2_with (first | refine wpList_load_var rfl _ rfl Tryz.underlying32 rfl rfl v2 (by kernel_rfl) ?_ | (refine wpList_store_var rfl _ _ rfl rfl rfl r2 rfl (by kernel_rfl) (by simp [Value.oneCell']) ?_; intro W9 v9 o9))
    have b9 := Only.below b2 o9 (Nat.le_succ _)
    refine bodyPost_ret (results_var rfl rfl v9 Tryz.underlying32 rfl (by kernel_rfl)) rfl ?_
    exact ⟨A, n, c, D, m, d, rfl, EIn.alike (HX.out.below (b9.mono hB)) rfl ⟨rfl, rfl⟩ rfl, b9⟩
  · cases yes with
    | true =>
      go_enter Tryz.func34, Tryz.ntmps34
      go_upto_region 1 with fail
      rw [← HW0.out]
      go_upto_region 18 with fail
      go_upto_region 19 with fail
      have vN := (Var.set (Var.set (Var.set (Var.set (Var.set (Var.set (Var.set (Var.set v0 7 (.int .i64 0)) 6 (.bool false)) 1 (.int .i64 0)) 2 (.int .i64 0)) 3 (.int .i64 0)) 4 (.bool false)) 5 (.slice none 0 0)) 0 (.int .i8 0))
      simp only [List.setIfInBounds_toArray, List.set_cons_succ, List.set_cons_zero] at vN
      refine wp_at (C := fun W => Var W w.heap.size 32 #[.int .i8 0, .int .i64 0, .int .i64 0, .int .i64 0, .bool false, .slice none 0 0, .bool false, .int .i64 0, .int .i64 off, .int .i64 ro, .int .i64 rp, .int .i64 rq, .string rk, .string rv, .int .i64 pp, .int .i64 pe, .int .i64 pn, .slice D m d] ∧ Var W (w.heap.size + 1) 32 #[.int .i8 0, .int .i64 0, .int .i64 0, .int .i64 0, .bool false, .slice none 0 0, .bool false, .int .i64 0, .int .i64 0, .int .i64 0, .int .i64 0, .int .i64 0, .string ⟨#[]⟩, .string ⟨#[]⟩, .int .i64 0, .int .i64 0, .int .i64 0, .slice none 0 0] ∧ Below w.heap.size w W) ⟨vN, (Var.other (Var.other (Var.other (Var.other (Var.other (Var.other (Var.other (Var.other r0 7 (.int .i64 0) (by omega)) 6 (.bool false) (by omega)) 1 (.int .i64 0) (by omega)) 2 (.int .i64 0) (by omega)) 3 (.int .i64 0) (by omega)) 4 (.bool false) (by omega)) 5 (.slice none 0 0) (by omega)) 0 (.int .i8 0) (by omega)), (Below.setCell (Below.setCell (Below.setCell (Below.setCell (Below.setCell (Below.setCell (Below.setCell (Below.setCell b0 (Nat.le_refl _) (.int .i64 0)) (Nat.le_refl _) (.bool false)) (Nat.le_refl _) (.int .i64 0)) (Nat.le_refl _) (.int .i64 0)) (Nat.le_refl _) (.int .i64 0)) (Nat.le_refl _) (.bool false)) (Nat.le_refl _) (.slice none 0 0)) (Nat.le_refl _) (.int .i8 0))⟩ ?_
      clear vN
      clear g0 g1 g2 g3 g4 g5 g6 g7 g8 g9 g10 g11 g12 g13 g14 g15 g16 g17 f0 z0
      rintro W2 ⟨v2, r2, b2⟩
      go_wp2_with (first | refine wpList_load_var rfl _ rfl Tryz.underlying32 rfl rfl v2 (by kernel_rfl) ?_ | (refine wpList_store_var rfl _ _ rfl rfl rfl r2 rfl (by kernel_rfl) (by simp [Value.oneCell']) ?_; intro W9 v9 o9))
      have b9 := Only.below b2 o9 (Nat.le_succ _)
      refine bodyPost_ret (results_var rfl rfl v9 Tryz.underlying32 rfl (by kernel_rfl)) rfl ?_
      exact ⟨none, 0, 0, D, m, d, rfl, EIn.noRecs (HX.out.below (b9.mono hB)) rfl rfl rfl, b9⟩
    | false =>
      go_enter Tryz.func34, Tryz.ntmps34
      go_upto_region 1 with fail
      rw [← HW0.out]
      go_upto_region 18 with fail
      go_upto_region 19 with fail
      have vN := (Var.set (Var.set (Var.set (Var.set (Var.set (Var.set (Var.set v0 6 (.bool false)) 1 (.int .i64 0)) 2 (.int .i64 0)) 3 (.int .i64 0)) 4 (.bool false)) 5 (.slice none 0 0)) 0 (.int .i8 0))
      simp only [List.setIfInBounds_toArray, List.set_cons_succ, List.set_cons_zero] at vN
      refine wp_at (C := fun W => Var W w.heap.size 32 #[.int .i8 0, .int .i64 0, .int .i64 0, .int .i64 0, .bool false, .slice none 0 0, .bool false, .int .i64 nx, .int .i64 off, .int .i64 ro, .int .i64 rp, .int .i64 rq, .string rk, .string rv, .int .i64 pp, .int .i64 pe, .int .i64 pn, .slice D m d] ∧ Var W (w.heap.size + 1) 32 #[.int .i8 0, .int .i64 0, .int .i64 0, .int .i64 0, .bool false, .slice none 0 0, .bool false, .int .i64 0, .int .i64 0, .int .i64 0, .int .i64 0, .int .i64 0, .string ⟨#[]⟩, .string ⟨#[]⟩, .int .i64 0, .int .i64 0, .int .i64 0, .slice none 0 0] ∧ Below w.heap.size w W) ⟨vN, (Var.other (Var.other (Var.other (Var.other (Var.other (Var.other (Var.other r0 6 (.bool false) (by omega)) 1 (.int .i64 0) (by omega)) 2 (.int .i64 0) (by omega)) 3 (.int .i64 0) (by omega)) 4 (.bool false) (by omega)) 5 (.slice none 0 0) (by omega)) 0 (.int .i8 0) (by omega)), (Below.setCell (Below.setCell (Below.setCell (Below.setCell (Below.setCell (Below.setCell (Below.setCell b0 (Nat.le_refl _) (.bool false)) (Nat.le_refl _) (.int .i64 0)) (Nat.le_refl _) (.int .i64 0)) (Nat.le_refl _) (.int .i64 0)) (Nat.le_refl _) (.bool false)) (Nat.le_refl _) (.slice none 0 0)) (Nat.le_refl _) (.int .i8 0))⟩ ?_
      clear vN
      clear g0 g1 g2 g3 g4 g5 g6 g7 g8 g9 g10 g11 g12 g13 g14 g15 g16 g17 f0 z0
      rintro W2 ⟨v2, r2, b2⟩
      go_wp2_with (first | refine wpList_load_var rfl _ rfl Tryz.underlying32 rfl rfl v2 (by kernel_rfl) ?_ | (refine wpList_store_var rfl _ _ rfl rfl rfl r2 rfl (by kernel_rfl) (by simp [Value.oneCell']) ?_; intro W9 v9 o9))
      have b9 := Only.below b2 o9 (Nat.le_succ _)
      refine bodyPost_ret (results_var rfl rfl v9 Tryz.underlying32 rfl (by kernel_rfl)) rfl ?_
      exact ⟨none, 0, 0, D, m, d, rfl, EIn.noRecs (HX.out.below (b9.mono hB)) rfl rfl rfl, b9⟩
  · go_enter Tryz.func34, Tryz.ntmps34
    go_upto_region 1 with fail
    rw [← HW0.out]
    go_upto_region 18 with fail
    go_upto_region 19 with fail
    have vN := (Var.set (Var.set (Var.set (Var.set v0 1 (.int .i64 0)) 2 (.int .i64 0)) 7 (.int .i64 0)) 0 (.int .i8 0))
    simp only [List.setIfInBounds_toArray, List.set_cons_succ, List.set_cons_zero] at vN
    refine wp_at (C := fun W => Var W w.heap.size 32 #[.int .i8 0, .int .i64 0, .int .i64 0, .int .i64 sq, .bool tx, .slice A n c, .bool yes, .int .i64 0, .int .i64 off, .int .i64 ro, .int .i64 rp, .int .i64 rq, .string rk, .string rv, .int .i64 pp, .int .i64 pe, .int .i64 pn, .slice D m d] ∧ Var W (w.heap.size + 1) 32 #[.int .i8 0, .int .i64 0, .int .i64 0, .int .i64 0, .bool false, .slice none 0 0, .bool false, .int .i64 0, .int .i64 0, .int .i64 0, .int .i64 0, .int .i64 0, .string ⟨#[]⟩, .string ⟨#[]⟩, .int .i64 0, .int .i64 0, .int .i64 0, .slice none 0 0] ∧ Below w.heap.size w W) ⟨vN, (Var.other (Var.other (Var.other (Var.other r0 1 (.int .i64 0) (by omega)) 2 (.int .i64 0) (by omega)) 7 (.int .i64 0) (by omega)) 0 (.int .i8 0) (by omega)), (Below.setCell (Below.setCell (Below.setCell (Below.setCell b0 (Nat.le_refl _) (.int .i64 0)) (Nat.le_refl _) (.int .i64 0)) (Nat.le_refl _) (.int .i64 0)) (Nat.le_refl _) (.int .i8 0))⟩ ?_
    clear vN
    clear g0 g1 g2 g3 g4 g5 g6 g7 g8 g9 g10 g11 g12 g13 g14 g15 g16 g17 f0 z0
    rintro W2 ⟨v2, r2, b2⟩
    go_wp2_with (first | refine wpList_load_var rfl _ rfl Tryz.underlying32 rfl rfl v2 (by kernel_rfl) ?_ | (refine wpList_store_var rfl _ _ rfl rfl rfl r2 rfl (by kernel_rfl) (by simp [Value.oneCell']) ?_; intro W9 v9 o9))
    have b9 := Only.below b2 o9 (Nat.le_succ _)
    refine bodyPost_ret (results_var rfl rfl v9 Tryz.underlying32 rfl (by kernel_rfl)) rfl ?_
    exact ⟨A, n, c, D, m, d, rfl, EIn.alike (HX.out.below (b9.mono hB)) rfl ⟨rfl, rfl⟩ rfl, b9⟩
  · go_enter Tryz.func34, Tryz.ntmps34
    go_upto_region 1 with fail
    rw [← HW0.out]
    go_upto_region 18 with fail
    go_upto_region 19 with fail
    have vN := (Var.set (Var.set (Var.set (Var.set (Var.set (Var.set v0 9 (.int .i64 ro)) 10 (.int .i64 0)) 11 (.int .i64 0)) 12 (.string ⟨#[]⟩)) 13 (.string ⟨#[]⟩)) 0 (.int .i8 0))
    simp only [List.setIfInBounds_toArray, List.set_cons_succ, List.set_cons_zero] at vN
    refine wp_at (C := fun W => Var W w.heap.size 32 #[.int .i8 0, .int .i64 pid, .int .i64 ep, .int .i64 sq, .bool tx, .slice A n c, .bool yes, .int .i64 nx, .int .i64 off, .int .i64 ro, .int .i64 0, .int .i64 0, .string ⟨#[]⟩, .string ⟨#[]⟩, .int .i64 pp, .int .i64 pe, .int .i64 pn, .slice D m d] ∧ Var W (w.heap.size + 1) 32 #[.int .i8 0, .int .i64 0, .int .i64 0, .int .i64 0, .bool false, .slice none 0 0, .bool false, .int .i64 0, .int .i64 0, .int .i64 0, .int .i64 0, .int .i64 0, .string ⟨#[]⟩, .string ⟨#[]⟩, .int .i64 0, .int .i64 0, .int .i64 0, .slice none 0 0] ∧ Below w.heap.size w W) ⟨vN, (Var.other (Var.other (Var.other (Var.other (Var.other (Var.other r0 9 (.int .i64 ro) (by omega)) 10 (.int .i64 0) (by omega)) 11 (.int .i64 0) (by omega)) 12 (.string ⟨#[]⟩) (by omega)) 13 (.string ⟨#[]⟩) (by omega)) 0 (.int .i8 0) (by omega)), (Below.setCell (Below.setCell (Below.setCell (Below.setCell (Below.setCell (Below.setCell b0 (Nat.le_refl _) (.int .i64 ro)) (Nat.le_refl _) (.int .i64 0)) (Nat.le_refl _) (.int .i64 0)) (Nat.le_refl _) (.string ⟨#[]⟩)) (Nat.le_refl _) (.string ⟨#[]⟩)) (Nat.le_refl _) (.int .i8 0))⟩ ?_
    clear vN
    clear g0 g1 g2 g3 g4 g5 g6 g7 g8 g9 g10 g11 g12 g13 g14 g15 g16 g17 f0 z0
    rintro W2 ⟨v2, r2, b2⟩
    go_wp2_with (first | refine wpList_load_var rfl _ rfl Tryz.underlying32 rfl rfl v2 (by kernel_rfl) ?_ | (refine wpList_store_var rfl _ _ rfl rfl rfl r2 rfl (by kernel_rfl) (by simp [Value.oneCell']) ?_; intro W9 v9 o9))
    have b9 := Only.below b2 o9 (Nat.le_succ _)
    refine bodyPost_ret (results_var rfl rfl v9 Tryz.underlying32 rfl (by kernel_rfl)) rfl ?_
    exact ⟨A, n, c, D, m, d, rfl, EIn.noRow (HX.out.below (b9.mono hB)) rfl ⟨rfl, rfl⟩ rfl, b9⟩
  · go_enter Tryz.func34, Tryz.ntmps34
    go_upto_region 1 with fail
    rw [← HW0.out]
    go_upto_region 18 with fail
    go_upto_region 19 with fail
    have vN := (Var.set (Var.set (Var.set (Var.set (Var.set v0 14 (.int .i64 0)) 15 (.int .i64 0)) 16 (.int .i64 0)) 17 (.slice none 0 0)) 0 (.int .i8 0))
    simp only [List.setIfInBounds_toArray, List.set_cons_succ, List.set_cons_zero] at vN
    refine wp_at (C := fun W => Var W w.heap.size 32 #[.int .i8 0, .int .i64 pid, .int .i64 ep, .int .i64 sq, .bool tx, .slice A n c, .bool yes, .int .i64 nx, .int .i64 off, .int .i64 ro, .int .i64 rp, .int .i64 rq, .string rk, .string rv, .int .i64 0, .int .i64 0, .int .i64 0, .slice none 0 0] ∧ Var W (w.heap.size + 1) 32 #[.int .i8 0, .int .i64 0, .int .i64 0, .int .i64 0, .bool false, .slice none 0 0, .bool false, .int .i64 0, .int .i64 0, .int .i64 0, .int .i64 0, .int .i64 0, .string ⟨#[]⟩, .string ⟨#[]⟩, .int .i64 0, .int .i64 0, .int .i64 0, .slice none 0 0] ∧ Below w.heap.size w W) ⟨vN, (Var.other (Var.other (Var.other (Var.other (Var.other r0 14 (.int .i64 0) (by omega)) 15 (.int .i64 0) (by omega)) 16 (.int .i64 0) (by omega)) 17 (.slice none 0 0) (by omega)) 0 (.int .i8 0) (by omega)), (Below.setCell (Below.setCell (Below.setCell (Below.setCell (Below.setCell b0 (Nat.le_refl _) (.int .i64 0)) (Nat.le_refl _) (.int .i64 0)) (Nat.le_refl _) (.int .i64 0)) (Nat.le_refl _) (.slice none 0 0)) (Nat.le_refl _) (.int .i8 0))⟩ ?_
    clear vN
    clear g0 g1 g2 g3 g4 g5 g6 g7 g8 g9 g10 g11 g12 g13 g14 g15 g16 g17 f0 z0
    rintro W2 ⟨v2, r2, b2⟩
    go_wp2_with (first | refine wpList_load_var rfl _ rfl Tryz.underlying32 rfl rfl v2 (by kernel_rfl) ?_ | (refine wpList_store_var rfl _ _ rfl rfl rfl r2 rfl (by kernel_rfl) (by simp [Value.oneCell']) ?_; intro W9 v9 o9))
    have b9 := Only.below b2 o9 (Nat.le_succ _)
    refine bodyPost_ret (results_var rfl rfl v9 Tryz.underlying32 rfl (by kernel_rfl)) rfl ?_
    exact ⟨A, n, c, none, 0, 0, rfl, EIn.noSeen (HX.out.below (b9.mono hB)) rfl rfl rfl, b9⟩
  · go_enter Tryz.func34, Tryz.ntmps34
    go_upto_region 1 with fail
    rw [← HW0.out]
    go_upto_region 18 with fail
    go_upto_region 19 with fail
    have vN := (Var.set v0 0 (.int .i8 0))
    simp only [List.setIfInBounds_toArray, List.set_cons_zero] at vN
    refine wp_at (C := fun W => Var W w.heap.size 32 #[.int .i8 0, .int .i64 pid, .int .i64 ep, .int .i64 sq, .bool tx, .slice A n c, .bool yes, .int .i64 nx, .int .i64 off, .int .i64 ro, .int .i64 rp, .int .i64 rq, .string rk, .string rv, .int .i64 pp, .int .i64 pe, .int .i64 pn, .slice D m d] ∧ Var W (w.heap.size + 1) 32 #[.int .i8 0, .int .i64 0, .int .i64 0, .int .i64 0, .bool false, .slice none 0 0, .bool false, .int .i64 0, .int .i64 0, .int .i64 0, .int .i64 0, .int .i64 0, .string ⟨#[]⟩, .string ⟨#[]⟩, .int .i64 0, .int .i64 0, .int .i64 0, .slice none 0 0] ∧ Below w.heap.size w W) ⟨vN, (Var.other r0 0 (.int .i8 0) (by omega)), (Below.setCell b0 (Nat.le_refl _) (.int .i8 0))⟩ ?_
    clear vN
    clear g0 g1 g2 g3 g4 g5 g6 g7 g8 g9 g10 g11 g12 g13 g14 g15 g16 g17 f0 z0
    rintro W2 ⟨v2, r2, b2⟩
    go_wp2_with (first | refine wpList_load_var rfl _ rfl Tryz.underlying32 rfl rfl v2 (by kernel_rfl) ?_ | (refine wpList_store_var rfl _ _ rfl rfl rfl r2 rfl (by kernel_rfl) (by simp [Value.oneCell']) ?_; intro W9 v9 o9))
    have b9 := Only.below b2 o9 (Nat.le_succ _)
    refine bodyPost_ret (results_var rfl rfl v9 Tryz.underlying32 rfl (by kernel_rfl)) rfl ?_
    rw [rest_no ⟨y0, y1, y2, y3, y4, y5, y6⟩]
    exact ⟨A, n, c, D, m, d, rfl, EIn.alike (HX.out.below (b9.mono hB)) rfl ⟨rfl, rfl⟩ rfl, b9⟩
end Go.Proofs.YtchpemgamgcbkaaGreat
