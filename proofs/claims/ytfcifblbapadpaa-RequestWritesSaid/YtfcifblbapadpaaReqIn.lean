/-
  Requests that came in by value, opened to what lies behind them; rows of requests. No conditions.
-/
import Derived.Test.YtfcifblbapadpaaReqMem
import Derived.Deep.Slices
namespace Go.Proofs.Ytfcifblbapadpaa
open Go.RowKit

theorem bounds_i8 {n : Int} (h : (Lit.int .i8 n).wf = true) : -128 ≤ n ∧ n ≤ 127 := by
  simp [Lit.wf] at h
  exact h
section
variable {H : Type} {enc : TypeId × Value → H} {w : World} {base : Nat} {spare : Nat → Bool} {held : Bool} {fuel : Nat} {a : Option Addr} {len cap : Nat} {x : DataW H × List MemPlace}

theorem in_spotq {w : World} {ad : Addr} {v : Value} {s : Nat} (h : w.cell? ((ad.add (0 * s)).add 0) = some v) : ∃ b off, ad = ⟨b, off, none⟩ ∧ b < w.heap.size := by
  have he : (ad.add (0 * s)).add 0 = ad := by simp [Addr.add]
  rw [he] at h
  obtain ⟨b, off, spot⟩ := ad
  have hs : spot = none := World.cell?_spot h
  subst hs
  exact ⟨b, off, rfl, World.block_lt_of_cell? w _ h⟩
theorem qbatch_cells_in {l : List Value} (hl : l.length = 5) (h : DataW.trod enc Try.prog w base spare held fuel 25 l = some x) : ∃ (b : Bt) (A : Option Addr) (n c : Nat), l = [.int .i64 b.pid, .int .i64 b.ep, .int .i64 b.sq, .bool b.tx, .slice A n c] ∧ b.rs.length = n ∧ n ≤ c ∧ Seen w w.heap.size A (rcells b.rs) ∧ n ≤ 9223372036854775807 ∧ ∀ y ∈ b.rs, y.k.size ≤ 9223372036854775807 ∧ y.v.size ≤ 9223372036854775807 := by
  have hI : Try.prog.cellsOf 3 = 1 := by kernel_rfl
  have hL : Try.prog.cellsOf 4 = 1 := by kernel_rfl
  have hS : Try.prog.cellsOf 23 = 1 := by kernel_rfl
  obtain ⟨xs, n', _, _, _, hxl, hf⟩ := DataW.trod_struct Try.underlying25 h
  obtain ⟨v0, q0⟩ := in_some l 0 5 hl (by omega)
  obtain ⟨v1, q1⟩ := in_some l 1 5 hl (by omega)
  obtain ⟨v2, q2⟩ := in_some l 2 5 hl (by omega)
  obtain ⟨v3, q3⟩ := in_some l 3 5 hl (by omega)
  obtain ⟨v4, q4⟩ := in_some l 4 5 hl (by omega)
  obtain ⟨y0, g0⟩ := in_some xs 0 5 hxl (by omega)
  obtain ⟨y1, g1⟩ := in_some xs 1 5 hxl (by omega)
  obtain ⟨y2, g2⟩ := in_some xs 2 5 hxl (by omega)
  obtain ⟨y3, g3⟩ := in_some xs 3 5 hxl (by omega)
  obtain ⟨y4, g4⟩ := in_some xs 4 5 hxl (by omega)
  have h0 : DataW.trod enc Try.prog w base spare held n' 3 ((l.drop 0).take (Try.prog.cellsOf 3)) = xs[0]? := hf 0 _ rfl
  have h1 : DataW.trod enc Try.prog w base spare held n' 3 ((l.drop 1).take (Try.prog.cellsOf 3)) = xs[1]? := hf 1 _ rfl
  have h2 : DataW.trod enc Try.prog w base spare held n' 3 ((l.drop 2).take (Try.prog.cellsOf 3)) = xs[2]? := hf 2 _ rfl
  have h3 : DataW.trod enc Try.prog w base spare held n' 4 ((l.drop 3).take (Try.prog.cellsOf 4)) = xs[3]? := hf 3 _ rfl
  have h4 : DataW.trod enc Try.prog w base spare held n' 23 ((l.drop 4).take (Try.prog.cellsOf 23)) = xs[4]? := hf 4 _ rfl
  rw [hI, in_cut _ _ _ q0, g0] at h0
  rw [hI, in_cut _ _ _ q1, g1] at h1
  rw [hI, in_cut _ _ _ q2, g2] at h2
  rw [hL, in_cut _ _ _ q3, g3] at h3
  rw [hS, in_cut _ _ _ q4, g4] at h4
  have hv5 : l = [v0, v1, v2, v3, v4] := list5 hl q0 q1 q2 q3 q4
  subst hv5
  obtain ⟨pid, e0, _, _⟩ := DataW.trod_int Try.underlying3 h0
  obtain ⟨ep, e1, _, _⟩ := DataW.trod_int Try.underlying3 h1
  obtain ⟨sq, e2, _, _⟩ := DataW.trod_int Try.underlying3 h2
  obtain ⟨tx, e3, _⟩ := DataW.trod_bool Try.underlying4 h3
  have h4' := h4
  have hml : maxLen ≤ 9223372036854775807 := by decide
  rcases Deep.open_slice Try.underlying23 h4 with ⟨hcs, _⟩ | ⟨ad, l, c, m, n, D, Pl, hcs, _⟩
  · simp only [List.cons.injEq, and_true] at hcs e0 e1 e2 e3
    subst hcs e0 e1 e2 e3
    exact ⟨⟨pid, ep, sq, tx, []⟩, none, 0, 0, rfl, rfl, Nat.le_refl _, Seen.nil _ _ _, by omega, (fun f hf => by cases hf)⟩
  · simp only [List.cons.injEq, and_true] at hcs e0 e1 e2 e3
    subst hcs e0 e1 e2 e3
    obtain ⟨rs, k1, k2, k3, k4, k5⟩ := recs_in h4'
    exact ⟨⟨pid, ep, sq, tx, rs⟩, some ad, l, c, rfl, k1, k2, k3, by omega, fun f hh => by have := k5 f hh; omega⟩
theorem list15 {l : List Value} (h : l.length = 15) : ∃ v0 v1 v2 v3 v4 v5 v6 v7 v8 v9 v10 v11 v12 v13 v14, l = [v0, v1, v2, v3, v4, v5, v6, v7, v8, v9, v10, v11, v12, v13, v14] := by
  obtain ⟨v0, l, rfl⟩ := List.exists_cons_of_length_eq_add_one h
  rw [List.length_cons, Nat.add_right_cancel_iff] at h
  obtain ⟨v1, l, rfl⟩ := List.exists_cons_of_length_eq_add_one h
  rw [List.length_cons, Nat.add_right_cancel_iff] at h
  obtain ⟨v2, l, rfl⟩ := List.exists_cons_of_length_eq_add_one h
  rw [List.length_cons, Nat.add_right_cancel_iff] at h
  obtain ⟨v3, l, rfl⟩ := List.exists_cons_of_length_eq_add_one h
  rw [List.length_cons, Nat.add_right_cancel_iff] at h
  obtain ⟨v4, l, rfl⟩ := List.exists_cons_of_length_eq_add_one h
  rw [List.length_cons, Nat.add_right_cancel_iff] at h
  obtain ⟨v5, l, rfl⟩ := List.exists_cons_of_length_eq_add_one h
  rw [List.length_cons, Nat.add_right_cancel_iff] at h
  obtain ⟨v6, l, rfl⟩ := List.exists_cons_of_length_eq_add_one h
  rw [List.length_cons, Nat.add_right_cancel_iff] at h
  obtain ⟨v7, l, rfl⟩ := List.exists_cons_of_length_eq_add_one h
  rw [List.length_cons, Nat.add_right_cancel_iff] at h
  obtain ⟨v8, l, rfl⟩ := List.exists_cons_of_length_eq_add_one h
  rw [List.length_cons, Nat.add_right_cancel_iff] at h
  obtain ⟨v9, l, rfl⟩ := List.exists_cons_of_length_eq_add_one h
  rw [List.length_cons, Nat.add_right_cancel_iff] at h
  obtain ⟨v10, l, rfl⟩ := List.exists_cons_of_length_eq_add_one h
  rw [List.length_cons, Nat.add_right_cancel_iff] at h
  obtain ⟨v11, l, rfl⟩ := List.exists_cons_of_length_eq_add_one h
  rw [List.length_cons, Nat.add_right_cancel_iff] at h
  obtain ⟨v12, l, rfl⟩ := List.exists_cons_of_length_eq_add_one h
  rw [List.length_cons, Nat.add_right_cancel_iff] at h
  obtain ⟨v13, l, rfl⟩ := List.exists_cons_of_length_eq_add_one h
  rw [List.length_cons, Nat.add_right_cancel_iff] at h
  obtain ⟨v14, l, rfl⟩ := List.exists_cons_of_length_eq_add_one h
  rw [List.length_cons, Nat.add_right_cancel_iff] at h
  obtain rfl := List.eq_nil_of_length_eq_zero h
  exact ⟨_, _, _, _, _, _, _, _, _, _, _, _, _, _, _, rfl⟩
theorem req_cells_in {l : List Value} (hl : l.length = 15) (h : DataW.trod enc Try.prog w base spare held fuel 27 l = some x) : ∃ (y : Rq) (A : Option Addr) (n c : Nat), l = (qvals y A n c).toList ∧ QIn w w.heap.size y A n c ∧ (-128 ≤ y.kind ∧ y.kind ≤ 127) := by
  have h8 : Try.prog.cellsOf 22 = 1 := by kernel_rfl
  have hI : Try.prog.cellsOf 3 = 1 := by kernel_rfl
  have hL : Try.prog.cellsOf 4 = 1 := by kernel_rfl
  have hB : Try.prog.cellsOf 25 = 5 := by kernel_rfl
  obtain ⟨xs, n', _, _, _, hxl, hf⟩ := DataW.trod_struct Try.underlying27 h
  obtain ⟨v0, v1, v2, v3, v4, v5, v6, v7, v8, v9, v10, v11, v12, v13, v14, rfl⟩ := list15 hl
  obtain ⟨y0, g0⟩ := in_some xs 0 11 hxl (by omega)
  obtain ⟨y1, g1⟩ := in_some xs 1 11 hxl (by omega)
  obtain ⟨y2, g2⟩ := in_some xs 2 11 hxl (by omega)
  obtain ⟨y3, g3⟩ := in_some xs 3 11 hxl (by omega)
  obtain ⟨y4, g4⟩ := in_some xs 4 11 hxl (by omega)
  obtain ⟨y5, g5⟩ := in_some xs 5 11 hxl (by omega)
  obtain ⟨y6, g6⟩ := in_some xs 6 11 hxl (by omega)
  obtain ⟨y7, g7⟩ := in_some xs 7 11 hxl (by omega)
  obtain ⟨y8, g8⟩ := in_some xs 8 11 hxl (by omega)
  obtain ⟨y9, g9⟩ := in_some xs 9 11 hxl (by omega)
  obtain ⟨y10, g10⟩ := in_some xs 10 11 hxl (by omega)
  have f0 : DataW.trod enc Try.prog w base spare held n' 22 (([v0, v1, v2, v3, v4, v5, v6, v7, v8, v9, v10, v11, v12, v13, v14].drop 0).take (Try.prog.cellsOf 22)) = xs[0]? := hf 0 _ rfl
  have f1 : DataW.trod enc Try.prog w base spare held n' 3 (([v0, v1, v2, v3, v4, v5, v6, v7, v8, v9, v10, v11, v12, v13, v14].drop 1).take (Try.prog.cellsOf 3)) = xs[1]? := hf 1 _ rfl
  have f2 : DataW.trod enc Try.prog w base spare held n' 3 (([v0, v1, v2, v3, v4, v5, v6, v7, v8, v9, v10, v11, v12, v13, v14].drop 2).take (Try.prog.cellsOf 3)) = xs[2]? := hf 2 _ rfl
  have f3 : DataW.trod enc Try.prog w base spare held n' 3 (([v0, v1, v2, v3, v4, v5, v6, v7, v8, v9, v10, v11, v12, v13, v14].drop 3).take (Try.prog.cellsOf 3)) = xs[3]? := hf 3 _ rfl
  have f4 : DataW.trod enc Try.prog w base spare held n' 3 (([v0, v1, v2, v3, v4, v5, v6, v7, v8, v9, v10, v11, v12, v13, v14].drop 4).take (Try.prog.cellsOf 3)) = xs[4]? := hf 4 _ rfl
  have f5 : DataW.trod enc Try.prog w base spare held n' 3 (([v0, v1, v2, v3, v4, v5, v6, v7, v8, v9, v10, v11, v12, v13, v14].drop 5).take (Try.prog.cellsOf 3)) = xs[5]? := hf 5 _ rfl
  have f6 : DataW.trod enc Try.prog w base spare held n' 3 (([v0, v1, v2, v3, v4, v5, v6, v7, v8, v9, v10, v11, v12, v13, v14].drop 6).take (Try.prog.cellsOf 3)) = xs[6]? := hf 6 _ rfl
  have f7 : DataW.trod enc Try.prog w base spare held n' 3 (([v0, v1, v2, v3, v4, v5, v6, v7, v8, v9, v10, v11, v12, v13, v14].drop 7).take (Try.prog.cellsOf 3)) = xs[7]? := hf 7 _ rfl
  have f8 : DataW.trod enc Try.prog w base spare held n' 3 (([v0, v1, v2, v3, v4, v5, v6, v7, v8, v9, v10, v11, v12, v13, v14].drop 8).take (Try.prog.cellsOf 3)) = xs[8]? := hf 8 _ rfl
  have f9 : DataW.trod enc Try.prog w base spare held n' 4 (([v0, v1, v2, v3, v4, v5, v6, v7, v8, v9, v10, v11, v12, v13, v14].drop 9).take (Try.prog.cellsOf 4)) = xs[9]? := hf 9 _ rfl
  have f10 : DataW.trod enc Try.prog w base spare held n' 25 (([v0, v1, v2, v3, v4, v5, v6, v7, v8, v9, v10, v11, v12, v13, v14].drop 10).take (Try.prog.cellsOf 25)) = xs[10]? := hf 10 _ rfl
  rw [h8, g0] at f0
  rw [hI, g1] at f1
  rw [hI, g2] at f2
  rw [hI, g3] at f3
  rw [hI, g4] at f4
  rw [hI, g5] at f5
  rw [hI, g6] at f6
  rw [hI, g7] at f7
  rw [hI, g8] at f8
  rw [hL, g9] at f9
  rw [hB, g10] at f10
  obtain ⟨kind, e0, _, hk⟩ := DataW.trod_int Try.underlying22 f0
  obtain ⟨tid, e1, _, _⟩ := DataW.trod_int Try.underlying3 f1
  obtain ⟨timeout, e2, _, _⟩ := DataW.trod_int Try.underlying3 f2
  obtain ⟨pid, e3, _, _⟩ := DataW.trod_int Try.underlying3 f3
  obtain ⟨ep, e4, _, _⟩ := DataW.trod_int Try.underlying3 f4
  obtain ⟨part, e5, _, _⟩ := DataW.trod_int Try.underlying3 f5
  obtain ⟨group, e6, _, _⟩ := DataW.trod_int Try.underlying3 f6
  obtain ⟨off, e7, _, _⟩ := DataW.trod_int Try.underlying3 f7
  obtain ⟨most, e8, _, _⟩ := DataW.trod_int Try.underlying3 f8
  obtain ⟨yes, e9, _⟩ := DataW.trod_bool Try.underlying4 f9
  obtain ⟨b, A, n, c, e10, k1, k2, k3, k4, k5⟩ := qbatch_cells_in rfl f10
  simp only [List.drop_succ_cons, List.drop_zero, List.take_succ_cons, List.take_zero, List.cons.injEq, and_true] at e0 e1 e2 e3 e4 e5 e6 e7 e8 e9 e10
  obtain ⟨a1, a2, a3, a4, a5⟩ := e10
  subst e0 e1 e2 e3 e4 e5 e6 e7 e8 e9 a1 a2 a3 a4 a5
  exact ⟨⟨kind, tid, timeout, pid, ep, part, group, off, most, yes, b⟩, A, n, c, rfl, ⟨k1, k3, k2, k4, k5⟩, bounds_i8 hk⟩
set_option maxRecDepth 100000 in
theorem req_in {r : Reach} {b0 : Nat} {v : Value} {d : DataW H} {q : List MemPlace} (hv : Value.okWide Try.prog w r b0 27 v) (h : DataW.Trod enc Try.prog w base spare held 27 v d q) : ∃ (y : Rq) (A : Option Addr) (n c : Nat), v = .agg (qvals y A n c) ∧ QIn w w.heap.size y A n c ∧ (-128 ≤ y.kind ∧ y.kind ≤ 127) := by
  have hC : Try.prog.cellsOf 27 = 15 := by kernel_rfl
  obtain ⟨cs, rfl, hsz⟩ := WideShapes.okWide_struct Try.underlying27 hv
  rw [hC] at hsz
  obtain ⟨fuel, ht⟩ := h
  obtain ⟨l⟩ := cs
  obtain ⟨y, A, n, c, hl, hp⟩ := req_cells_in (l := l) (by simpa using hsz) ht
  exact ⟨y, A, n, c, by rw [hl], hp⟩

/-- A request with where its records lie. -/
structure QX where
  x : Rq
  A : Option Addr
  n : Nat
  c : Nat
def qcell (e : QX) : List Value := (qvals e.x e.A e.n e.c).toList
def qcells (l : List QX) : List Value := l.flatMap qcell
theorem qcell_length (e : QX) : (qcell e).length = 15 := rfl
theorem qcells_length (l : List QX) : (qcells l).length = l.length * 15 := flat_length qcell 15 qcell_length l
def QX.In (e : QX) (w : World) (B : Nat) : Prop := QIn w B e.x e.A e.n e.c ∧ (-128 ≤ e.x.kind ∧ e.x.kind ≤ 127)
theorem qx_at {w : World} {B : Nat} {A : Option Addr} {l : List QX} {k : Nat} {r : QX} (h : Seen w B A (qcells l)) (hk : l[k]? = some r) :
    ∃ b off, A = some ⟨b, off, none⟩ ∧ b < B ∧ w.rangeAt b (off + k * 15) (qcell r) := by
  have ha : ∀ j, j < 15 → (qcells l)[k * 15 + j]? = (qcell r)[j]? := fun j hj => flat_at qcell 15 qcell_length hk j hj
  obtain ⟨b, off, rfl, hb, hc⟩ := h (by
    intro e
    have := ha 0 (by omega)
    rw [e] at this
    simp [qcell, qvals] at this)
  refine ⟨b, off, rfl, hb, fun j v hj => ?_⟩
  have hlt : j < 15 := by rw [← qcell_length r]; exact (List.getElem?_eq_some_iff.1 hj).1
  rw [Nat.add_assoc]
  exact hc _ _ (by rw [ha j hlt]; exact hj)
/-- A row of requests in memory. -/
structure QsIn (w : World) (B : Nat) (l : List QX) (A : Option Addr) (n : Nat) : Prop where
  len : l.length = n
  seen : Seen w B A (qcells l)
  each : ∀ e ∈ l, e.In w B
theorem QsIn.below {w w' : World} {B n : Nat} {l : List QX} {A : Option Addr} (h : QsIn w B l A n) (hb : Below B w w') : QsIn w' B l A n := ⟨h.len, h.seen.below hb, fun e he => ⟨(h.each e he).1.below hb, (h.each e he).2⟩⟩
end
end Go.Proofs.Ytfcifblbapadpaa
