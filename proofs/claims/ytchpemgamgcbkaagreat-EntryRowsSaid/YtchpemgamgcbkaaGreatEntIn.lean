/-
  Producers and entries that came in by value, opened to what lies behind them; rows of entries. No conditions.
-/
import Derived.Test.YtchpemgamgcbkaaGreatEntG7
namespace Go.Proofs.YtchpemgamgcbkaaGreat
open Go.RowKit

section
variable {H : Type} {enc : TypeId × Value → H} {w : World} {base : Nat} {spare : Nat → Bool} {held : Bool} {fuel : Nat} {a : Option Addr} {len cap : Nat} {x : DataW H × List MemPlace}

theorem in_spot3 {w : World} {ad : Addr} {v : Value} {s : Nat} (h : w.cell? ((ad.add (0 * s)).add 0) = some v) : ∃ b off, ad = ⟨b, off, none⟩ ∧ b < w.heap.size := by
  have he : (ad.add (0 * s)).add 0 = ad := by simp [Addr.add]
  rw [he] at h
  obtain ⟨b, off, spot⟩ := ad
  have hs : spot = none := World.cell?_spot h
  subst hs
  exact ⟨b, off, rfl, World.block_lt_of_cell? w _ h⟩
theorem sns_in (h : DataW.trod enc Tryz.prog w base spare held fuel 28 [.slice a len cap] = some x) :
    ∃ l : List Sn, l.length = len ∧ len ≤ cap ∧ Seen w w.heap.size a (scells l) ∧ cap ≤ maxLen := by
  have hC : Tryz.prog.cellsOf 75 = 3 := by kernel_rfl
  have hI : Tryz.prog.cellsOf 3 = 1 := by kernel_rfl
  rcases Deep.open_slice Tryz.underlying28 h with ⟨hcs, _⟩ | ⟨ad, l, c, m, n, D, Pl, hcs, _, hlc, hcm, hm, _, hi⟩
  · simp at hcs
    obtain ⟨rfl, rfl, rfl⟩ := hcs
    exact ⟨[], rfl, Nat.le_refl _, Seen.nil _ _ _, Nat.zero_le _⟩
  · simp at hcs
    obtain ⟨rfl, rfl, rfl⟩ := hcs
    have one : ∀ i, i < len → ∃ y : Sn, ∃ b off, ad = ⟨b, off, none⟩ ∧ b < w.heap.size ∧ (w.cell? ⟨b, off + i * 3, none⟩ = some (.int .i64 y.sq) ∧ w.cell? ⟨b, off + i * 3 + 1, none⟩ = some (.int .i64 y.cnt) ∧ w.cell? ⟨b, off + i * 3 + 2, none⟩ = some (.int .i64 y.bs)) := by
      intro i hil
      obtain ⟨cs', hc, ht⟩ := hi i (by rw [hm]; split <;> omega)
      rw [hC] at hc
      obtain ⟨_, hl, hat⟩ := World.cells?_some hc
      obtain ⟨xs, n', _, _, _, hxl, hf⟩ := DataW.trod_struct Tryz.underlying75 ht
      obtain ⟨c0, h0⟩ := in_some cs' 0 3 hl (by omega)
      obtain ⟨c1, h1⟩ := in_some cs' 1 3 hl (by omega)
      obtain ⟨c2, h2⟩ := in_some cs' 2 3 hl (by omega)
      obtain ⟨y0, g0⟩ := in_some xs 0 3 hxl (by omega)
      obtain ⟨y1, g1⟩ := in_some xs 1 3 hxl (by omega)
      obtain ⟨y2, g2⟩ := in_some xs 2 3 hxl (by omega)
      have f0 : DataW.trod enc Tryz.prog w base spare held n' 3 ((cs'.drop 0).take (Tryz.prog.cellsOf 3)) = xs[0]? := hf 0 _ rfl
      have f1 : DataW.trod enc Tryz.prog w base spare held n' 3 ((cs'.drop 1).take (Tryz.prog.cellsOf 3)) = xs[1]? := hf 1 _ rfl
      have f2 : DataW.trod enc Tryz.prog w base spare held n' 3 ((cs'.drop 2).take (Tryz.prog.cellsOf 3)) = xs[2]? := hf 2 _ rfl
      rw [hI, in_cut _ _ _ h0, g0] at f0
      rw [hI, in_cut _ _ _ h1, g1] at f1
      rw [hI, in_cut _ _ _ h2, g2] at f2
      obtain ⟨sq, e0, _, _⟩ := DataW.trod_int Tryz.underlying3 f0
      obtain ⟨cnt, e1, _, _⟩ := DataW.trod_int Tryz.underlying3 f1
      obtain ⟨bs, e2, _, _⟩ := DataW.trod_int Tryz.underlying3 f2
      simp only [List.cons.injEq, and_true] at e0 e1 e2
      subst e0 e1 e2
      have k0 := hat 0 (by omega)
      have k1 := hat 1 (by omega)
      have k2 := hat 2 (by omega)
      rw [h0] at k0
      rw [h1] at k1
      rw [h2] at k2
      obtain ⟨i0, hi0⟩ : ∃ i0 : Nat, i0 = 0 := ⟨0, rfl⟩
      obtain ⟨cs0, hc0, _⟩ := hi i0 (by rw [hm]; split <;> omega)
      rw [hC] at hc0
      obtain ⟨_, hl0, hat0⟩ := World.cells?_some hc0
      obtain ⟨z, hz⟩ := in_some cs0 0 3 hl0 (by omega)
      subst hi0
      obtain ⟨b, off, rfl, hb⟩ := in_spot3 ((hat0 0 (by omega)).trans hz)
      simp only [plain_add] at k0 k1 k2
      exact ⟨⟨sq, cnt, bs⟩, b, off, rfl, hb, by simpa using k0, k1, k2⟩
    obtain ⟨ws, hlen, hws⟩ := in_choose len one
    refine ⟨ws, hlen, by omega, fun hne => ?_, by omega⟩
    obtain ⟨y, hy⟩ := in_some ws 0 ws.length rfl (by
      rcases ws with _ | ⟨y, r⟩
      · exact absurd rfl hne
      · simp)
    obtain ⟨b, off, rfl, hb, _⟩ := hws 0 y hy
    refine ⟨b, off, rfl, hb, flat_all scell 3 (by omega) (fun _ => rfl) (p := fun i u => w.cell? ⟨b, off + i, none⟩ = some u) fun k g j u hg hj hu => ?_⟩
    obtain ⟨b', off', he, _, hk0, hk1, hk2⟩ := hws k g hg
    simp only [Addr.mk.injEq, and_true] at he
    obtain ⟨rfl, rfl⟩ := he
    match j, hj with
    | 0, _ => simp [scell] at hu; subst hu; exact hk0
    | 1, _ => simp [scell] at hu; subst hu; exact hk1
    | 2, _ => simp [scell] at hu; subst hu; exact hk2
theorem prod_cells_in {l : List Value} (hl : l.length = 4) (h : DataW.trod enc Tryz.prog w base spare held fuel 30 l = some x) : ∃ (p : Pd) (A : Option Addr) (n c : Nat), l = [.int .i64 p.pid, .int .i64 p.ep, .int .i64 p.nx, .slice A n c] ∧ PIn w w.heap.size p A n c := by
  have hI : Tryz.prog.cellsOf 3 = 1 := by kernel_rfl
  have hS : Tryz.prog.cellsOf 28 = 1 := by kernel_rfl
  obtain ⟨xs, n', _, _, _, hxl, hf⟩ := DataW.trod_struct Tryz.underlying30 h
  obtain ⟨v0, q0⟩ := in_some l 0 4 hl (by omega)
  obtain ⟨v1, q1⟩ := in_some l 1 4 hl (by omega)
  obtain ⟨v2, q2⟩ := in_some l 2 4 hl (by omega)
  obtain ⟨v3, q3⟩ := in_some l 3 4 hl (by omega)
  obtain ⟨y0, g0⟩ := in_some xs 0 4 hxl (by omega)
  obtain ⟨y1, g1⟩ := in_some xs 1 4 hxl (by omega)
  obtain ⟨y2, g2⟩ := in_some xs 2 4 hxl (by omega)
  obtain ⟨y3, g3⟩ := in_some xs 3 4 hxl (by omega)
  have h0 : DataW.trod enc Tryz.prog w base spare held n' 3 ((l.drop 0).take (Tryz.prog.cellsOf 3)) = xs[0]? := hf 0 _ rfl
  have h1 : DataW.trod enc Tryz.prog w base spare held n' 3 ((l.drop 1).take (Tryz.prog.cellsOf 3)) = xs[1]? := hf 1 _ rfl
  have h2 : DataW.trod enc Tryz.prog w base spare held n' 3 ((l.drop 2).take (Tryz.prog.cellsOf 3)) = xs[2]? := hf 2 _ rfl
  have h3 : DataW.trod enc Tryz.prog w base spare held n' 28 ((l.drop 3).take (Tryz.prog.cellsOf 28)) = xs[3]? := hf 3 _ rfl
  rw [hI, in_cut _ _ _ q0, g0] at h0
  rw [hI, in_cut _ _ _ q1, g1] at h1
  rw [hI, in_cut _ _ _ q2, g2] at h2
  rw [hS, in_cut _ _ _ q3, g3] at h3
  obtain ⟨pid, e0, _, _⟩ := DataW.trod_int Tryz.underlying3 h0
  obtain ⟨ep, e1, _, _⟩ := DataW.trod_int Tryz.underlying3 h1
  obtain ⟨nx, e2, _, _⟩ := DataW.trod_int Tryz.underlying3 h2
  have hml : maxLen ≤ 9223372036854775807 := by decide
  have h3' := h3
  have hv : l = [v0, v1, v2, v3] := by
    rcases l with _ | ⟨x0, _ | ⟨x1, _ | ⟨x2, _ | ⟨x3, _ | ⟨x4, r⟩⟩⟩⟩⟩ <;> simp at hl q0 q1 q2 q3
    subst q0 q1 q2 q3
    rfl
  subst hv
  rcases Deep.open_slice Tryz.underlying28 h3 with ⟨hcs, _⟩ | ⟨ad, l, c, m, n, D, Pl, hcs, _⟩
  · simp only [List.cons.injEq, and_true] at hcs e0 e1 e2
    subst hcs e0 e1 e2
    exact ⟨⟨pid, ep, nx, []⟩, none, 0, 0, rfl, ⟨rfl, Seen.nil _ _ _, Nat.le_refl _, by omega⟩⟩
  · simp only [List.cons.injEq, and_true] at hcs e0 e1 e2
    subst hcs e0 e1 e2
    obtain ⟨sn, k1, k2, k3, k4⟩ := sns_in h3'
    exact ⟨⟨pid, ep, nx, sn⟩, some ad, l, c, rfl, ⟨k1, k3, k2, by omega⟩⟩
theorem batch_cells_in {l : List Value} (hl : l.length = 5) (h : DataW.trod enc Tryz.prog w base spare held fuel 25 l = some x) : ∃ (b : Bt) (A : Option Addr) (n c : Nat), l = [.int .i64 b.pid, .int .i64 b.ep, .int .i64 b.sq, .bool b.tx, .slice A n c] ∧ b.rs.length = n ∧ n ≤ c ∧ Seen w w.heap.size A (rcells b.rs) ∧ n ≤ 9223372036854775807 ∧ ∀ y ∈ b.rs, y.k.size ≤ 9223372036854775807 ∧ y.v.size ≤ 9223372036854775807 := by
  have hI : Tryz.prog.cellsOf 3 = 1 := by kernel_rfl
  have hL : Tryz.prog.cellsOf 4 = 1 := by kernel_rfl
  have hS : Tryz.prog.cellsOf 23 = 1 := by kernel_rfl
  obtain ⟨xs, n', _, _, _, hxl, hf⟩ := DataW.trod_struct Tryz.underlying25 h
  obtain ⟨v0, q0⟩ := in_some l 0 5 hl (by omega)
  obtain ⟨v1, q1⟩ := in_some l 1 5 hl (by omega)
  obtain ⟨v2, q2⟩ := in_some l 2 5 hl (by omega)
  obtain ⟨v3, q3⟩ := in_some l 3 5 hl (by omega)
  obtain ⟨v4, q4⟩ := in_some l 4 5 hl (by omega)
  obtain ⟨y0, g0⟩ := in_some xs 0 5 hxl (by omega)
  obtain ⟨y1, g1⟩ := in_some xs 1 5 hxl (by omega)
  obtain ⟨y2, g2⟩ := in_some xs 2 5 hxl (by omega)
  obtain ⟨y3, g3⟩ := in_some xs 3 5 hxl (by omega)
  obtain ⟨y4, g4⟩ := in_some xs 4 5 hxl (by omega)
  have h0 : DataW.trod enc Tryz.prog w base spare held n' 3 ((l.drop 0).take (Tryz.prog.cellsOf 3)) = xs[0]? := hf 0 _ rfl
  have h1 : DataW.trod enc Tryz.prog w base spare held n' 3 ((l.drop 1).take (Tryz.prog.cellsOf 3)) = xs[1]? := hf 1 _ rfl
  have h2 : DataW.trod enc Tryz.prog w base spare held n' 3 ((l.drop 2).take (Tryz.prog.cellsOf 3)) = xs[2]? := hf 2 _ rfl
  have h3 : DataW.trod enc Tryz.prog w base spare held n' 4 ((l.drop 3).take (Tryz.prog.cellsOf 4)) = xs[3]? := hf 3 _ rfl
  have h4 : DataW.trod enc Tryz.prog w base spare held n' 23 ((l.drop 4).take (Tryz.prog.cellsOf 23)) = xs[4]? := hf 4 _ rfl
  rw [hI, in_cut _ _ _ q0, g0] at h0
  rw [hI, in_cut _ _ _ q1, g1] at h1
  rw [hI, in_cut _ _ _ q2, g2] at h2
  rw [hL, in_cut _ _ _ q3, g3] at h3
  rw [hS, in_cut _ _ _ q4, g4] at h4
  have hv5 : l = [v0, v1, v2, v3, v4] := list5 hl q0 q1 q2 q3 q4
  subst hv5
  obtain ⟨pid, e0, _, _⟩ := DataW.trod_int Tryz.underlying3 h0
  obtain ⟨ep, e1, _, _⟩ := DataW.trod_int Tryz.underlying3 h1
  obtain ⟨sq, e2, _, _⟩ := DataW.trod_int Tryz.underlying3 h2
  obtain ⟨tx, e3, _⟩ := DataW.trod_bool Tryz.underlying4 h3
  have h4' := h4
  have hml : maxLen ≤ 9223372036854775807 := by decide
  rcases Deep.open_slice Tryz.underlying23 h4 with ⟨hcs, _⟩ | ⟨ad, l, c, m, n, D, Pl, hcs, _⟩
  · simp only [List.cons.injEq, and_true] at hcs e0 e1 e2 e3
    subst hcs e0 e1 e2 e3
    exact ⟨⟨pid, ep, sq, tx, []⟩, none, 0, 0, rfl, rfl, Nat.le_refl _, Seen.nil _ _ _, by omega, (fun f hf => by cases hf)⟩
  · simp only [List.cons.injEq, and_true] at hcs e0 e1 e2 e3
    subst hcs e0 e1 e2 e3
    obtain ⟨rs, k1, k2, k3, k4, k5⟩ := recs_in h4'
    exact ⟨⟨pid, ep, sq, tx, rs⟩, some ad, l, c, rfl, k1, k2, k3, by omega, fun f hh => by have := k5 f hh; omega⟩
theorem row_cells_in {l : List Value} (hl : l.length = 5) (h : DataW.trod enc Tryz.prog w base spare held fuel 27 l = some x) : ∃ r : Rw, l = [.int .i64 r.off, .int .i64 r.pid, .int .i64 r.sq, .string r.k, .string r.v] ∧ r.k.size ≤ 9223372036854775807 ∧ r.v.size ≤ 9223372036854775807 := by
  have hI : Tryz.prog.cellsOf 3 = 1 := by kernel_rfl
  have hS : Tryz.prog.cellsOf 9 = 1 := by kernel_rfl
  obtain ⟨xs, n', _, _, _, hxl, hf⟩ := DataW.trod_struct Tryz.underlying27 h
  obtain ⟨v0, q0⟩ := in_some l 0 5 hl (by omega)
  obtain ⟨v1, q1⟩ := in_some l 1 5 hl (by omega)
  obtain ⟨v2, q2⟩ := in_some l 2 5 hl (by omega)
  obtain ⟨v3, q3⟩ := in_some l 3 5 hl (by omega)
  obtain ⟨v4, q4⟩ := in_some l 4 5 hl (by omega)
  obtain ⟨y0, g0⟩ := in_some xs 0 5 hxl (by omega)
  obtain ⟨y1, g1⟩ := in_some xs 1 5 hxl (by omega)
  obtain ⟨y2, g2⟩ := in_some xs 2 5 hxl (by omega)
  obtain ⟨y3, g3⟩ := in_some xs 3 5 hxl (by omega)
  obtain ⟨y4, g4⟩ := in_some xs 4 5 hxl (by omega)
  have h0 : DataW.trod enc Tryz.prog w base spare held n' 3 ((l.drop 0).take (Tryz.prog.cellsOf 3)) = xs[0]? := hf 0 _ rfl
  have h1 : DataW.trod enc Tryz.prog w base spare held n' 3 ((l.drop 1).take (Tryz.prog.cellsOf 3)) = xs[1]? := hf 1 _ rfl
  have h2 : DataW.trod enc Tryz.prog w base spare held n' 3 ((l.drop 2).take (Tryz.prog.cellsOf 3)) = xs[2]? := hf 2 _ rfl
  have h3 : DataW.trod enc Tryz.prog w base spare held n' 9 ((l.drop 3).take (Tryz.prog.cellsOf 9)) = xs[3]? := hf 3 _ rfl
  have h4 : DataW.trod enc Tryz.prog w base spare held n' 9 ((l.drop 4).take (Tryz.prog.cellsOf 9)) = xs[4]? := hf 4 _ rfl
  rw [hI, in_cut _ _ _ q0, g0] at h0
  rw [hI, in_cut _ _ _ q1, g1] at h1
  rw [hI, in_cut _ _ _ q2, g2] at h2
  rw [hS, in_cut _ _ _ q3, g3] at h3
  rw [hS, in_cut _ _ _ q4, g4] at h4
  have hv5 : l = [v0, v1, v2, v3, v4] := list5 hl q0 q1 q2 q3 q4
  subst hv5
  obtain ⟨ro, e0, _, _⟩ := DataW.trod_int Tryz.underlying3 h0
  obtain ⟨rp, e1, _, _⟩ := DataW.trod_int Tryz.underlying3 h1
  obtain ⟨rq, e2, _, _⟩ := DataW.trod_int Tryz.underlying3 h2
  obtain ⟨rk, e3, _, z3⟩ := DataW.trod_string Tryz.underlying9 h3
  obtain ⟨rv, e4, _, z4⟩ := DataW.trod_string Tryz.underlying9 h4
  have hml : maxLen ≤ 9223372036854775807 := by decide
  simp only [List.cons.injEq, and_true] at e0 e1 e2 e3 e4
  subst e0 e1 e2 e3 e4
  exact ⟨⟨ro, rp, rq, rk, rv⟩, rfl, by simp only; omega, by simp only; omega⟩
theorem list18 {l : List Value} (h : l.length = 18) : ∃ v0 v1 v2 v3 v4 v5 v6 v7 v8 v9 v10 v11 v12 v13 v14 v15 v16 v17, l = [v0, v1, v2, v3, v4, v5, v6, v7, v8, v9, v10, v11, v12, v13, v14, v15, v16, v17] := by
  obtain ⟨v0, l, rfl⟩ := List.exists_cons_of_length_eq_add_one h
  rw [List.length_cons, Nat.add_right_cancel_iff] at h
  obtain ⟨v1, l, rfl⟩ := List.exists_cons_of_length_eq_add_one h
  rw [List.length_cons, Nat.add_right_cancel_iff] at h
  obtain ⟨v2, l, rfl⟩ := List.exists_cons_of_length_eq_add_one h
  rw [List.length_cons, Nat.add_right_cancel_iff] at h
  obtain ⟨v3, l, rfl⟩ := List.exists_cons_of_length_eq_add_one h
  rw [List.length_cons, Nat.add_right_cancel_iff] at h
  obtain ⟨v4, l, rfl⟩ := List.exists_cons_of_length_eq_add_one h
  rw [List.length_cons, Nat.add_right_cancel_iff] at h
  obtain ⟨v5, l, rfl⟩ := List.exists_cons_of_length_eq_add_one h
  rw [List.length_cons, Nat.add_right_cancel_iff] at h
  obtain ⟨v6, l, rfl⟩ := List.exists_cons_of_length_eq_add_one h
  rw [List.length_cons, Nat.add_right_cancel_iff] at h
  obtain ⟨v7, l, rfl⟩ := List.exists_cons_of_length_eq_add_one h
  rw [List.length_cons, Nat.add_right_cancel_iff] at h
  obtain ⟨v8, l, rfl⟩ := List.exists_cons_of_length_eq_add_one h
  rw [List.length_cons, Nat.add_right_cancel_iff] at h
  obtain ⟨v9, l, rfl⟩ := List.exists_cons_of_length_eq_add_one h
  rw [List.length_cons, Nat.add_right_cancel_iff] at h
  obtain ⟨v10, l, rfl⟩ := List.exists_cons_of_length_eq_add_one h
  rw [List.length_cons, Nat.add_right_cancel_iff] at h
  obtain ⟨v11, l, rfl⟩ := List.exists_cons_of_length_eq_add_one h
  rw [List.length_cons, Nat.add_right_cancel_iff] at h
  obtain ⟨v12, l, rfl⟩ := List.exists_cons_of_length_eq_add_one h
  rw [List.length_cons, Nat.add_right_cancel_iff] at h
  obtain ⟨v13, l, rfl⟩ := List.exists_cons_of_length_eq_add_one h
  rw [List.length_cons, Nat.add_right_cancel_iff] at h
  obtain ⟨v14, l, rfl⟩ := List.exists_cons_of_length_eq_add_one h
  rw [List.length_cons, Nat.add_right_cancel_iff] at h
  obtain ⟨v15, l, rfl⟩ := List.exists_cons_of_length_eq_add_one h
  rw [List.length_cons, Nat.add_right_cancel_iff] at h
  obtain ⟨v16, l, rfl⟩ := List.exists_cons_of_length_eq_add_one h
  rw [List.length_cons, Nat.add_right_cancel_iff] at h
  obtain ⟨v17, l, rfl⟩ := List.exists_cons_of_length_eq_add_one h
  rw [List.length_cons, Nat.add_right_cancel_iff] at h
  obtain rfl := List.eq_nil_of_length_eq_zero h
  exact ⟨_, _, _, _, _, _, _, _, _, _, _, _, _, _, _, _, _, _, rfl⟩
theorem entry_cells_in {l : List Value} (hl : l.length = 18) (h : DataW.trod enc Tryz.prog w base spare held fuel 32 l = some x) : ∃ (y : En) (A D : Option Addr) (n c m d : Nat), l = (evals y A n c D m d).toList ∧ EIn w w.heap.size y A n c D m d := by
  have h8 : Tryz.prog.cellsOf 22 = 1 := by kernel_rfl
  have hI : Tryz.prog.cellsOf 3 = 1 := by kernel_rfl
  have hL : Tryz.prog.cellsOf 4 = 1 := by kernel_rfl
  have hB : Tryz.prog.cellsOf 25 = 5 := by kernel_rfl
  have hR : Tryz.prog.cellsOf 27 = 5 := by kernel_rfl
  have hP : Tryz.prog.cellsOf 30 = 4 := by kernel_rfl
  obtain ⟨xs, n', _, _, _, hxl, hf⟩ := DataW.trod_struct Tryz.underlying32 h
  obtain ⟨v0, v1, v2, v3, v4, v5, v6, v7, v8, v9, v10, v11, v12, v13, v14, v15, v16, v17, rfl⟩ := list18 hl
  obtain ⟨y0, g0⟩ := in_some xs 0 7 hxl (by omega)
  obtain ⟨y1, g1⟩ := in_some xs 1 7 hxl (by omega)
  obtain ⟨y2, g2⟩ := in_some xs 2 7 hxl (by omega)
  obtain ⟨y3, g3⟩ := in_some xs 3 7 hxl (by omega)
  obtain ⟨y4, g4⟩ := in_some xs 4 7 hxl (by omega)
  obtain ⟨y5, g5⟩ := in_some xs 5 7 hxl (by omega)
  obtain ⟨y6, g6⟩ := in_some xs 6 7 hxl (by omega)
  have f0 : DataW.trod enc Tryz.prog w base spare held n' 22 (([v0, v1, v2, v3, v4, v5, v6, v7, v8, v9, v10, v11, v12, v13, v14, v15, v16, v17].drop 0).take (Tryz.prog.cellsOf 22)) = xs[0]? := hf 0 _ rfl
  have f1 : DataW.trod enc Tryz.prog w base spare held n' 25 (([v0, v1, v2, v3, v4, v5, v6, v7, v8, v9, v10, v11, v12, v13, v14, v15, v16, v17].drop 1).take (Tryz.prog.cellsOf 25)) = xs[1]? := hf 1 _ rfl
  have f2 : DataW.trod enc Tryz.prog w base spare held n' 4 (([v0, v1, v2, v3, v4, v5, v6, v7, v8, v9, v10, v11, v12, v13, v14, v15, v16, v17].drop 6).take (Tryz.prog.cellsOf 4)) = xs[2]? := hf 2 _ rfl
  have f3 : DataW.trod enc Tryz.prog w base spare held n' 3 (([v0, v1, v2, v3, v4, v5, v6, v7, v8, v9, v10, v11, v12, v13, v14, v15, v16, v17].drop 7).take (Tryz.prog.cellsOf 3)) = xs[3]? := hf 3 _ rfl
  have f4 : DataW.trod enc Tryz.prog w base spare held n' 3 (([v0, v1, v2, v3, v4, v5, v6, v7, v8, v9, v10, v11, v12, v13, v14, v15, v16, v17].drop 8).take (Tryz.prog.cellsOf 3)) = xs[4]? := hf 4 _ rfl
  have f5 : DataW.trod enc Tryz.prog w base spare held n' 27 (([v0, v1, v2, v3, v4, v5, v6, v7, v8, v9, v10, v11, v12, v13, v14, v15, v16, v17].drop 9).take (Tryz.prog.cellsOf 27)) = xs[5]? := hf 5 _ rfl
  have f6 : DataW.trod enc Tryz.prog w base spare held n' 30 (([v0, v1, v2, v3, v4, v5, v6, v7, v8, v9, v10, v11, v12, v13, v14, v15, v16, v17].drop 14).take (Tryz.prog.cellsOf 30)) = xs[6]? := hf 6 _ rfl
  rw [h8, g0] at f0
  rw [hB, g1] at f1
  rw [hL, g2] at f2
  rw [hI, g3] at f3
  rw [hI, g4] at f4
  rw [hR, g5] at f5
  rw [hP, g6] at f6
  obtain ⟨kind, e0, _, _⟩ := DataW.trod_int Tryz.underlying22 f0
  obtain ⟨b, A, n, c, e1, k1, k2, k3, k4, k5⟩ := batch_cells_in rfl f1
  obtain ⟨yes, e2, _⟩ := DataW.trod_bool Tryz.underlying4 f2
  obtain ⟨nx, e3, _, _⟩ := DataW.trod_int Tryz.underlying3 f3
  obtain ⟨off, e4, _, _⟩ := DataW.trod_int Tryz.underlying3 f4
  obtain ⟨r, e5, r1, r2⟩ := row_cells_in rfl f5
  obtain ⟨p, D, m, d, e6, hp⟩ := prod_cells_in rfl f6
  simp only [List.drop_succ_cons, List.drop_zero, List.take_succ_cons, List.take_zero, List.cons.injEq, and_true] at e0 e1 e2 e3 e4 e5 e6
  obtain ⟨a1, a2, a3, a4, a5⟩ := e1
  obtain ⟨c1, c2, c3, c4, c5⟩ := e5
  obtain ⟨d1, d2, d3, d4⟩ := e6
  subst e0 a1 a2 a3 a4 a5 e2 e3 e4 c1 c2 c3 c4 c5 d1 d2 d3 d4
  exact ⟨⟨kind, b, yes, nx, off, r, p⟩, A, D, n, c, m, d, rfl, ⟨k1, k3, k2, k4, k5, ⟨r1, r2⟩, hp⟩⟩
set_option maxRecDepth 100000 in
theorem prod_in {r : Reach} {b0 : Nat} {v : Value} {d : DataW H} {q : List MemPlace} (hv : Value.okWide Tryz.prog w r b0 30 v) (h : DataW.Trod enc Tryz.prog w base spare held 30 v d q) : ∃ (p : Pd) (A : Option Addr) (n c : Nat), v = .agg (pvals p A n c) ∧ PIn w w.heap.size p A n c := by
  have hC : Tryz.prog.cellsOf 30 = 4 := by kernel_rfl
  obtain ⟨cs, rfl, hsz⟩ := WideShapes.okWide_struct Tryz.underlying30 hv
  rw [hC] at hsz
  obtain ⟨fuel, ht⟩ := h
  obtain ⟨l⟩ := cs
  obtain ⟨p, A, n, c, hl, hp⟩ := prod_cells_in (l := l) (by simpa using hsz) ht
  exact ⟨p, A, n, c, by rw [hl]; rfl, hp⟩
set_option maxRecDepth 100000 in
theorem entry_in {r : Reach} {b0 : Nat} {v : Value} {d : DataW H} {q : List MemPlace} (hv : Value.okWide Tryz.prog w r b0 32 v) (h : DataW.Trod enc Tryz.prog w base spare held 32 v d q) : ∃ (y : En) (A : Option Addr) (n c : Nat) (D : Option Addr) (m k : Nat), v = .agg (evals y A n c D m k) ∧ EIn w w.heap.size y A n c D m k := by
  have hC : Tryz.prog.cellsOf 32 = 18 := by kernel_rfl
  obtain ⟨cs, rfl, hsz⟩ := WideShapes.okWide_struct Tryz.underlying32 hv
  rw [hC] at hsz
  obtain ⟨fuel, ht⟩ := h
  obtain ⟨l⟩ := cs
  obtain ⟨y, A, D, n, c, m, k, hl, hp⟩ := entry_cells_in (l := l) (by simpa using hsz) ht
  exact ⟨y, A, n, c, D, m, k, by rw [hl], hp⟩
end
end Go.Proofs.YtchpemgamgcbkaaGreat
