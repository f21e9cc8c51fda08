/-
  Contracts of entry's single and right: what each returns and what it does to memory. Conditions: those that each theorem names.
-/
import Derived.Test.YtchpemgamgcbkaaGreatEntKnownB
import Derived.Test.YtchpemgamgcbkaaGreatRecMayB
import Derived.Test.YtchpemgamgcbkaaGreatRecApp
namespace Go.Proofs.YtchpemgamgcbkaaGreat
open Go.RowKit

section
variable (b : Bt) (y : Bool) (nx off : Int) (r : Rw) (p : Pd)
theorem right0 : En.Right ⟨0, b, y, nx, off, r, p⟩ ↔ b.Good := by simp [En.Right]
theorem right1 : En.Right ⟨1, b, y, nx, off, r, p⟩ ↔ Named b.pid b.ep := by simp [En.Right]
theorem right2 : En.Right ⟨2, b, y, nx, off, r, p⟩ ↔ 0 ≤ off ∧ off ≤ 1048576 := by simp [En.Right]
theorem right3 : En.Right ⟨3, b, y, nx, off, r, p⟩ ↔ b.tx = true ∧ (0 ≤ nx ∧ nx ≤ 1048576) ∧ b.Good := by simp [En.Right]
theorem right4 : En.Right ⟨4, b, y, nx, off, r, p⟩ ↔ (0 ≤ nx ∧ nx ≤ 1048576) ∧ Named b.pid b.ep := by simp [En.Right]
theorem right5 : En.Right ⟨5, b, y, nx, off, r, p⟩ ↔ RowOk r.pid r.sq r.k r.v := by simp [En.Right]
theorem right6 : En.Right ⟨6, b, y, nx, off, r, p⟩ ↔ p.Good := by simp [En.Right]
end
theorem kind_cases (k : Int) : k = 0 ∨ k = 1 ∨ k = 2 ∨ k = 3 ∨ k = 4 ∨ k = 5 ∨ k = 6 ∨ ((k == 0) = false ∧ (k == 1) = false ∧ (k == 2) = false ∧ (k == 3) = false ∧ (k == 4) = false ∧ (k == 5) = false ∧ (k == 6) = false) := by
  simp only [beq_eq_false_iff_ne]
  omega
theorem right_no {x : En} (h : (x.kind == 0) = false ∧ (x.kind == 1) = false ∧ (x.kind == 2) = false ∧ (x.kind == 3) = false ∧ (x.kind == 4) = false ∧ (x.kind == 5) = false ∧ (x.kind == 6) = false) : ¬ x.Right := by
  simp only [beq_eq_false_iff_ne] at h
  obtain ⟨h0, h1, h2, h3, h4, h5, h6⟩ := h
  simp [En.Right, h0, h1, h2, h3, h4, h5, h6]
theorem bool_not {a : Bool} {p : Prop} (h : a = true ↔ p) (hn : ¬ p) : a = false := by
  rw [← Bool.not_eq_true]
  exact fun h' => hn (h.1 h')
theorem single_good (pid sq : Int) (k v : ByteArray) : Bt.Good ⟨pid, 0, sq, false, [⟨k, v⟩]⟩ ↔ RowOk pid sq k v := by
  simp only [Bt.Good, RowOk, Rc.Good, List.length_cons, List.length_nil, List.mem_singleton, forall_eq]
  constructor
  · rintro ⟨h1, _, _, h2, h3⟩
    exact ⟨h1, ⟨h2.1, by omega⟩, h3⟩
  · rintro ⟨h1, h2, h3⟩
    exact ⟨h1, by omega, by omega, ⟨h2.1, by omega⟩, h3⟩

set_option maxRecDepth 100000 in
theorem single_any (ro pid sq : Int) (k v : ByteArray) (w : World) :
    Calls Tryz.prog 75 #[.agg #[.int .i64 ro, .int .i64 pid, .int .i64 sq, .string k, .string v]] w fun e w' =>
      ∃ A c, e = .returned (.agg #[.int .i64 pid, .int .i64 0, .int .i64 sq, .bool false, .slice A 1 c]) ∧ Seen w' w'.heap.size A (rcells [⟨k, v⟩]) ∧ Below w.heap.size w w' := by
  go_enter Tryz.func75, Tryz.ntmps75
  go_wp2
  obtain ⟨g, hg⟩ : ∃ g, g = w.heap.size + 1 + 1 := ⟨_, rfl⟩
  rw [← hg]
  obtain ⟨W1, hW1⟩ : ∃ W1, W1 = (w.alloc (.cells #[.int .i64 ro, .int .i64 pid, .int .i64 sq, .string k, .string v] 27)).alloc (.cells #[.int .i64 pid, .int .i64 0, .int .i64 sq, .bool false, .slice (some ⟨g, 0, none⟩) 1 1] 25) := ⟨_, rfl⟩
  have v1 : Var W1 (w.heap.size + 1) 25 #[.int .i64 pid, .int .i64 0, .int .i64 sq, .bool false, .slice (some ⟨g, 0, none⟩) 1 1] := by
    rw [hW1]
    have h := Var.new (w.alloc (.cells #[.int .i64 ro, .int .i64 pid, .int .i64 sq, .string k, .string v] 27)) #[.int .i64 pid, .int .i64 0, .int .i64 sq, .bool false, .slice (some ⟨g, 0, none⟩) 1 1] 25
    rw [World.size_alloc] at h
    exact h
  have z1 : W1.heap.size = g := by rw [hW1, hg]; simp
  have b1 : Below w.heap.size w W1 := by rw [hW1]; exact ((Below.refl _ w).alloc (Nat.le_refl _) _).alloc (by simp) _
  rw [← hW1]
  have hs := seen_rec W1 ⟨k, v⟩ 56 g z1
  have v2 := v1.alloc (.cells #[.string k, .string v] 56)
  have b2 := b1.alloc b1.size (.cells #[.string k, .string v] 56)
  obtain ⟨d0, d1, d2, d3, d4, f⟩ := v2.cells5
  clear hW1 v1 hg
  refine bodyPost_ret (v := .agg #[.int .i64 pid, .int .i64 0, .int .i64 sq, .bool false, .slice (some ⟨g, 0, none⟩) 1 1]) (by simp [results, Tryz.results75, go_sem, d0, d1, d2, d3, d4]) rfl ?_
  exact ⟨_, 1, rfl, by rw [World.size_alloc, z1]; simpa [rcells] using hs, b2⟩

set_option maxRecDepth 100000 in
set_option maxHeartbeats 4000000 in
theorem right_any (x : En) (A D : Option Addr) (n c m d B : Nat) (q : Bool) (w : World) (hx : EIn w B x A n c D m d) (hB : B ≤ w.heap.size) (hq : q = true ↔ x.Right) :
    Calls Tryz.prog 33 #[.agg (evals x A n c D m d)] w fun e w' => e = .returned (.bool q) ∧ Below w.heap.size w w' := by
  obtain ⟨kind, ⟨pid, ep, sq, tx, rs⟩, yes, nx, off, ⟨ro, rp, rq, rk, rv⟩, ⟨pp, pe, pn, sn⟩⟩ := x
  obtain ⟨hlen, hseen, hcap, hmax, hsz, hksz, hpd⟩ := hx
  simp only at hlen hseen hpd hsz hksz
  obtain ⟨hk1, hk2⟩ := hksz
  have HQ := Lib.hid hq
  have HL := Lib.hid hlen
  have HS := Lib.hid hsz
  have HP := Lib.hid hpd
  clear hq hlen hsz hpd
  simp only [evals]
  obtain ⟨W0, hW0⟩ : ∃ W0, W0 = w.alloc (.cells (evals ⟨kind, ⟨pid, ep, sq, tx, rs⟩, yes, nx, off, ⟨ro, rp, rq, rk, rv⟩, ⟨pp, pe, pn, sn⟩⟩ A n c D m d) 32) := ⟨_, rfl⟩
  have v0 : Var W0 w.heap.size 32 (evals ⟨kind, ⟨pid, ep, sq, tx, rs⟩, yes, nx, off, ⟨ro, rp, rq, rk, rv⟩, ⟨pp, pe, pn, sn⟩⟩ A n c D m d) := by rw [hW0]; exact Var.new _ _ _
  have b0 : Below w.heap.size w W0 := by rw [hW0]; exact below_new _
  simp only [evals] at hW0 v0
  obtain ⟨g0, g1, g2, g3, g4, g5, g6, g7, g8, g9, g10, g11, g12, g13, g14, g15, g16, g17, f0⟩ := v0.cells18
  have z0 := v0.lt
  have HW0 := Lib.hid hW0
  have hs0 := hseen.below (b0.mono hB)
  have HP0 := Lib.hid (HP.out.below (b0.mono hB))
  have hB0 := Nat.le_trans hB b0.size
  clear hW0 hseen HP
  rcases kind_cases kind with rfl | rfl | rfl | rfl | rfl | rfl | rfl | ⟨y0, y1, y2, y3, y4, y5, y6⟩
  · have HR := Lib.hid (HQ.out.trans (right0 ..))
    clear HQ
    go_enter Tryz.func33, Tryz.ntmps33
    go_upto_region 1 with fail
    rw [← HW0.out]
    go_wp2_with fail
    refine (may_any A n c B rs pid ep sq tx q W0 HL.out HR.out hs0 hB0 hmax HS.out).mono ?_
    rintro e w1 ⟨rfl, hb1⟩
    have hb2 := b0.trans (hb1.mono b0.size)
    go_wp2
    go_ret
    exact ⟨rfl, hb2⟩
  · have HR := Lib.hid (HQ.out.trans (right1 ..))
    clear HQ
    go_enter Tryz.func33, Tryz.ntmps33
    go_upto_region 1 with fail
    rw [← HW0.out]
    go_wp2_with fail
    refine (named_any pid ep q W0 HR.out).mono ?_
    rintro e w1 ⟨rfl, rfl⟩
    have hb2 := b0
    go_wp2
    go_ret
    exact ⟨rfl, hb2⟩
  · have HR := Lib.hid (HQ.out.trans (right2 ..))
    clear HQ
    go_enter Tryz.func33, Tryz.ntmps33
    go_upto_region 1 with fail
    rw [← HW0.out]
    go_wp2_with fail
    refine (within_any off 0 1048576 q W0 HR.out).mono ?_
    rintro e w1 ⟨rfl, rfl⟩
    have hb2 := b0
    go_wp2
    go_ret
    exact ⟨rfl, hb2⟩
  · have HR := Lib.hid (HQ.out.trans (right3 ..))
    clear HQ
    cases tx with
    | false =>
      obtain rfl : q = false := bool_not HR.out (fun h => by cases h.1)
      have hb2 := b0
      clear HR
      go_enter Tryz.func33, Tryz.ntmps33
      go_upto_region 1 with fail
      rw [← HW0.out]
      go_wp2
      go_ret
      exact ⟨rfl, hb2⟩
    | true =>
      obtain ⟨u, hu⟩ := iff_of (0 ≤ nx ∧ nx ≤ 1048576)
      have HU := Lib.hid hu
      clear hu
      go_enter Tryz.func33, Tryz.ntmps33
      go_upto_region 1 with fail
      rw [← HW0.out]
      go_wp2_with fail
      refine (within_any nx 0 1048576 u W0 HU.out).mono ?_
      rintro e w1 ⟨rfl, rfl⟩
      cases u with
      | false =>
        obtain rfl : q = false := bool_not HR.out (fun h => by have := HU.out.2 h.2.1; cases this)
        have hb2 := b0
        clear HR HU
        go_wp2
        go_ret
        exact ⟨rfl, hb2⟩
      | true =>
        go_wp2_with fail
        refine (may_any A n c B rs pid ep sq true q _ HL.out ?_ hs0 hB0 hmax HS.out).mono ?_
        · rw [HR.out]
          exact ⟨fun h => h.2.2, fun h => ⟨(by first | rfl | trivial), HU.out.1 (by first | rfl | trivial), h⟩⟩
        rintro e w1 ⟨rfl, hb1⟩
        have hb2 := b0.trans (hb1.mono b0.size)
        go_wp2
        go_ret
        exact ⟨rfl, hb2⟩
  · have HR := Lib.hid (HQ.out.trans (right4 ..))
    clear HQ
    obtain ⟨u, hu⟩ := iff_of (0 ≤ nx ∧ nx ≤ 1048576)
    have HU := Lib.hid hu
    clear hu
    go_enter Tryz.func33, Tryz.ntmps33
    go_upto_region 1 with fail
    rw [← HW0.out]
    go_wp2_with fail
    refine (within_any nx 0 1048576 u W0 HU.out).mono ?_
    rintro e w1 ⟨rfl, rfl⟩
    cases u with
    | false =>
      obtain rfl : q = false := bool_not HR.out (fun h => by have := HU.out.2 h.1; cases this)
      have hb2 := b0
      clear HR HU
      go_wp2
      go_ret
      exact ⟨rfl, hb2⟩
    | true =>
      go_wp2_with fail
      refine (named_any pid ep q _ ?_).mono ?_
      · rw [HR.out]
        exact ⟨fun h => h.2, fun h => ⟨HU.out.1 (by first | rfl | trivial), h⟩⟩
      rintro e w1 ⟨rfl, rfl⟩
      have hb2 := b0
      go_wp2
      go_ret
      exact ⟨rfl, hb2⟩
  · have HR := Lib.hid (HQ.out.trans (right5 ..))
    clear HQ
    go_enter Tryz.func33, Tryz.ntmps33
    go_upto_region 1 with fail
    rw [← HW0.out]
    go_wp2_with fail
    refine (single_any ro rp rq rk rv W0).mono ?_
    rintro e w1 ⟨A', c', rfl, hs1, hb1⟩
    have hb2 := b0.trans (hb1.mono b0.size)
    go_wp2_with fail
    refine (may_any A' 1 c' w1.heap.size [⟨rk, rv⟩] rp 0 rq false q _ rfl ?_ hs1 (Nat.le_refl _) (by omega) (by simp; omega)).mono ?_
    · rw [HR.out, single_good]
    rintro e w2 ⟨rfl, hb3⟩
    have hb2 := hb2.trans (hb3.mono hb2.size)
    go_wp2
    go_ret
    exact ⟨rfl, hb2⟩
  · have HR := Lib.hid (HQ.out.trans (right6 ..))
    clear HQ
    go_enter Tryz.func33, Tryz.ntmps33
    go_upto_region 1 with fail
    rw [← HW0.out]
    go_wp2_with fail
    refine (known_any ⟨pp, pe, pn, sn⟩ D m d B q W0 HP0.out hB0 HR.out).mono ?_
    rintro e w1 ⟨rfl, hb1⟩
    have hb2 := b0.trans (hb1.mono b0.size)
    go_wp2
    go_ret
    exact ⟨rfl, hb2⟩
  · obtain rfl : q = false := bool_not HQ.out (right_no ⟨y0, y1, y2, y3, y4, y5, y6⟩)
    have hb2 := b0
    clear HQ
    go_enter Tryz.func33, Tryz.ntmps33
    go_upto_region 1 with fail
    rw [← HW0.out]
    go_wp2
    go_ret
    exact ⟨rfl, hb2⟩
end Go.Proofs.YtchpemgamgcbkaaGreat
