/-
  Replies that came in by value, opened to their rows. No conditions.
-/
import Derived.Test.YtplpagnnlggfgaaDoorRepFields
import Derived.Test.YtplpagnnlggfgaaDoorRepRow
import Derived.Deep.Slices
namespace Go.Proofs.YtplpagnnlggfgaaDoor
open Go.RowKit

theorem bounds_i8 {n : Int} (h : (Lit.int .i8 n).wf = true) : -128 ≤ n ∧ n ≤ 127 := by
  simp [Lit.wf] at h
  exact h
section
variable {H : Type} {enc : TypeId × Value → H} {w : World} {base : Nat} {spare : Nat → Bool} {held : Bool} {fuel : Nat} {a : Option Addr} {len cap : Nat} {x : DataW H × List MemPlace}

theorem in_spot5 {w : World} {ad : Addr} {v : Value} {s : Nat} (h : w.cell? ((ad.add (0 * s)).add 0) = some v) : ∃ b off, ad = ⟨b, off, none⟩ ∧ b < w.heap.size := by
  have he : (ad.add (0 * s)).add 0 = ad := by simp [Addr.add]
  rw [he] at h
  obtain ⟨b, off, spot⟩ := ad
  have hs : spot = none := World.cell?_spot h
  subst hs
  exact ⟨b, off, rfl, World.block_lt_of_cell? w _ h⟩
theorem row_cells_in {l : List Value} (hl : l.length = 5) (h : DataW.trod enc Tryd.prog w base spare held fuel 37 l = some x) : ∃ r : Rw, l = rwcell r ∧ RwFit r := by
  have hI : Tryd.prog.cellsOf 3 = 1 := by kernel_rfl
  have hS : Tryd.prog.cellsOf 9 = 1 := by kernel_rfl
  obtain ⟨xs, n', _, _, _, hxl, hf⟩ := DataW.trod_struct Tryd.underlying37 h
  obtain ⟨v0, q0⟩ := in_some l 0 5 hl (by omega)
  obtain ⟨v1, q1⟩ := in_some l 1 5 hl (by omega)
  obtain ⟨v2, q2⟩ := in_some l 2 5 hl (by omega)
  obtain ⟨v3, q3⟩ := in_some l 3 5 hl (by omega)
  obtain ⟨v4, q4⟩ := in_some l 4 5 hl (by omega)
  obtain ⟨y0, g0⟩ := in_some xs 0 5 hxl (by omega)
  obtain ⟨y1, g1⟩ := in_some xs 1 5 hxl (by omega)
  obtain ⟨y2, g2⟩ := in_some xs 2 5 hxl (by omega)
  obtain ⟨y3, g3⟩ := in_some xs 3 5 hxl (by omega)
  obtain ⟨y4, g4⟩ := in_some xs 4 5 hxl (by omega)
  have h0 : DataW.trod enc Tryd.prog w base spare held n' 3 ((l.drop 0).take (Tryd.prog.cellsOf 3)) = xs[0]? := hf 0 _ rfl
  have h1 : DataW.trod enc Tryd.prog w base spare held n' 3 ((l.drop 1).take (Tryd.prog.cellsOf 3)) = xs[1]? := hf 1 _ rfl
  have h2 : DataW.trod enc Tryd.prog w base spare held n' 3 ((l.drop 2).take (Tryd.prog.cellsOf 3)) = xs[2]? := hf 2 _ rfl
  have h3 : DataW.trod enc Tryd.prog w base spare held n' 9 ((l.drop 3).take (Tryd.prog.cellsOf 9)) = xs[3]? := hf 3 _ rfl
  have h4 : DataW.trod enc Tryd.prog w base spare held n' 9 ((l.drop 4).take (Tryd.prog.cellsOf 9)) = xs[4]? := hf 4 _ rfl
  rw [hI, in_cut _ _ _ q0, g0] at h0
  rw [hI, in_cut _ _ _ q1, g1] at h1
  rw [hI, in_cut _ _ _ q2, g2] at h2
  rw [hS, in_cut _ _ _ q3, g3] at h3
  rw [hS, in_cut _ _ _ q4, g4] at h4
  have hv5 : l = [v0, v1, v2, v3, v4] := list5 hl q0 q1 q2 q3 q4
  subst hv5
  obtain ⟨o, e0, _, w0⟩ := DataW.trod_int Tryd.underlying3 h0
  obtain ⟨p, e1, _, w1⟩ := DataW.trod_int Tryd.underlying3 h1
  obtain ⟨s, e2, _, w2⟩ := DataW.trod_int Tryd.underlying3 h2
  obtain ⟨k, e3, _, hk⟩ := DataW.trod_string Tryd.underlying9 h3
  obtain ⟨v, e4, _, hv⟩ := DataW.trod_string Tryd.underlying9 h4
  simp only [List.cons.injEq, and_true] at e0 e1 e2 e3 e4
  subst e0 e1 e2 e3 e4
  have hml : maxLen ≤ 9223372036854775807 := by decide
  exact ⟨⟨o, p, s, k, v⟩, rfl, ⟨bounds_i64 w0, bounds_i64 w1, bounds_i64 w2, Nat.le_trans hk hml, Nat.le_trans hv hml⟩⟩
theorem rows_in (h : DataW.trod enc Tryd.prog w base spare held fuel 24 [.slice a len cap] = some x) : ∃ l : List Rw, l.length = len ∧ len ≤ cap ∧ Seen w w.heap.size a (rwcells l) ∧ cap ≤ maxLen ∧ ∀ r ∈ l, RwFit r := by
  have hC : Tryd.prog.cellsOf 37 = 5 := by kernel_rfl
  rcases Deep.open_slice Tryd.underlying24 h with ⟨hcs, _⟩ | ⟨ad, l, c, m, n, D, Pl, hcs, _, hlc, hcm, hm, _, hi⟩
  · simp at hcs
    obtain ⟨rfl, rfl, rfl⟩ := hcs
    exact ⟨[], rfl, Nat.le_refl _, Seen.nil _ _ _, Nat.zero_le _, fun e he => by cases he⟩
  · simp at hcs
    obtain ⟨rfl, rfl, rfl⟩ := hcs
    have one : ∀ i, i < len → ∃ y : Rw, ∃ b off, ad = ⟨b, off, none⟩ ∧ b < w.heap.size ∧ RwFit y ∧ ∀ j v, (rwcell y)[j]? = some v → w.cell? ⟨b, off + i * 5 + j, none⟩ = some v := by
      intro i hil
      obtain ⟨cs', hc, ht⟩ := hi i (by rw [hm]; split <;> omega)
      rw [hC] at hc
      obtain ⟨_, hl, hat⟩ := World.cells?_some hc
      obtain ⟨y, hl', hp⟩ := row_cells_in hl ht
      obtain ⟨i0, hi0⟩ : ∃ i0 : Nat, i0 = 0 := ⟨0, rfl⟩
      obtain ⟨cs0, hc0, _⟩ := hi i0 (by rw [hm]; split <;> omega)
      rw [hC] at hc0
      obtain ⟨_, hl0, hat0⟩ := World.cells?_some hc0
      obtain ⟨z, hz⟩ := in_some cs0 0 5 hl0 (by omega)
      subst hi0
      obtain ⟨b, off, rfl, hb⟩ := in_spot5 ((hat0 0 (by omega)).trans hz)
      refine ⟨y, b, off, rfl, hb, hp, fun j v hj => ?_⟩
      have hlt : j < 5 := by have := (List.getElem?_eq_some_iff.1 hj).1; simpa [rwcell] using this
      have hk := hat j hlt
      simp only [plain_add] at hk
      rw [hk, hl']
      exact hj
    obtain ⟨ws, hlen, hws⟩ := in_choose len one
    refine ⟨ws, hlen, by omega, fun hne => ?_, by omega, fun e he => ?_⟩
    · obtain ⟨y, hy⟩ := in_some ws 0 ws.length rfl (by
        rcases ws with _ | ⟨y, r⟩
        · exact absurd rfl hne
        · simp)
      obtain ⟨b, off, rfl, hb, _⟩ := hws 0 y hy
      refine ⟨b, off, rfl, hb, flat_all rwcell 5 (by omega) (fun _ => rfl) (p := fun i u => w.cell? ⟨b, off + i, none⟩ = some u) fun k g j u hg hj hu => ?_⟩
      obtain ⟨b', off', he, _, _, hr⟩ := hws k g hg
      simp only [Addr.mk.injEq, and_true] at he
      obtain ⟨rfl, rfl⟩ := he
      rw [← Nat.add_assoc]
      exact hr j u hu
    · obtain ⟨k, hk⟩ := List.getElem?_of_mem he
      obtain ⟨_, _, _, _, hin, _⟩ := hws k e hk
      exact hin
theorem list6 {l : List Value} (h : l.length = 6) : ∃ v0 v1 v2 v3 v4 v5, l = [v0, v1, v2, v3, v4, v5] := by
  rcases l with _ | ⟨x0, _ | ⟨x1, _ | ⟨x2, _ | ⟨x3, _ | ⟨x4, _ | ⟨x5, _ | ⟨x6, r⟩⟩⟩⟩⟩⟩⟩ <;> simp at h
  exact ⟨_, _, _, _, _, _, rfl⟩
/-- What a machine holds of a reply that came in. -/
structure RGot (w : World) (x : Rp) (A : Option Addr) (n c : Nat) : Prop where
  rin : RIn w w.heap.size x A n c
  fit : RpFit x
  rows : ∀ r ∈ x.rows, RwFit r
theorem reply_cells_in {l : List Value} (hl : l.length = 6) (h : DataW.trod enc Tryd.prog w base spare held fuel 26 l = some x) : ∃ (y : Rp) (A : Option Addr) (n c : Nat), l = (rpvals y A n c).toList ∧ RGot w y A n c := by
  have h8 : Tryd.prog.cellsOf 22 = 1 := by kernel_rfl
  have hI : Tryd.prog.cellsOf 3 = 1 := by kernel_rfl
  have hE : Tryd.prog.cellsOf 23 = 1 := by kernel_rfl
  have hS : Tryd.prog.cellsOf 24 = 1 := by kernel_rfl
  obtain ⟨xs, n', _, _, _, hxl, hf⟩ := DataW.trod_struct Tryd.underlying26 h
  obtain ⟨v0, v1, v2, v3, v4, v5, rfl⟩ := list6 hl
  obtain ⟨y0, g0⟩ := in_some xs 0 6 hxl (by omega)
  obtain ⟨y1, g1⟩ := in_some xs 1 6 hxl (by omega)
  obtain ⟨y2, g2⟩ := in_some xs 2 6 hxl (by omega)
  obtain ⟨y3, g3⟩ := in_some xs 3 6 hxl (by omega)
  obtain ⟨y4, g4⟩ := in_some xs 4 6 hxl (by omega)
  obtain ⟨y5, g5⟩ := in_some xs 5 6 hxl (by omega)
  have f0 : DataW.trod enc Tryd.prog w base spare held n' 22 (([v0, v1, v2, v3, v4, v5].drop 0).take (Tryd.prog.cellsOf 22)) = xs[0]? := hf 0 _ rfl
  have f1 : DataW.trod enc Tryd.prog w base spare held n' 23 (([v0, v1, v2, v3, v4, v5].drop 1).take (Tryd.prog.cellsOf 23)) = xs[1]? := hf 1 _ rfl
  have f2 : DataW.trod enc Tryd.prog w base spare held n' 3 (([v0, v1, v2, v3, v4, v5].drop 2).take (Tryd.prog.cellsOf 3)) = xs[2]? := hf 2 _ rfl
  have f3 : DataW.trod enc Tryd.prog w base spare held n' 3 (([v0, v1, v2, v3, v4, v5].drop 3).take (Tryd.prog.cellsOf 3)) = xs[3]? := hf 3 _ rfl
  have f4 : DataW.trod enc Tryd.prog w base spare held n' 3 (([v0, v1, v2, v3, v4, v5].drop 4).take (Tryd.prog.cellsOf 3)) = xs[4]? := hf 4 _ rfl
  have f5 : DataW.trod enc Tryd.prog w base spare held n' 24 (([v0, v1, v2, v3, v4, v5].drop 5).take (Tryd.prog.cellsOf 24)) = xs[5]? := hf 5 _ rfl
  rw [h8, g0] at f0
  rw [hE, g1] at f1
  rw [hI, g2] at f2
  rw [hI, g3] at f3
  rw [hI, g4] at f4
  rw [hS, g5] at f5
  simp only [List.drop_succ_cons, List.drop_zero, List.take_succ_cons, List.take_zero] at f0 f1 f2 f3 f4 f5
  obtain ⟨kind, e0, _, b0⟩ := DataW.trod_int Tryd.underlying22 f0
  obtain ⟨e, e1, _, b1⟩ := DataW.trod_int Tryd.underlying23 f1
  obtain ⟨pid, e2, _, b2⟩ := DataW.trod_int Tryd.underlying3 f2
  obtain ⟨ep, e3, _, b3⟩ := DataW.trod_int Tryd.underlying3 f3
  obtain ⟨off, e4, _, b4⟩ := DataW.trod_int Tryd.underlying3 f4
  simp only [List.cons.injEq, and_true] at e0 e1 e2 e3 e4
  subst e0 e1 e2 e3 e4
  have hml : maxLen ≤ 9223372036854775807 := by decide
  have f5' := f5
  rcases Deep.open_slice Tryd.underlying24 f5 with ⟨hcs, _⟩ | ⟨ad, l, c, m, n, D, Pl, hcs, _⟩
  · simp only [List.cons.injEq, and_true] at hcs
    subst hcs
    exact ⟨⟨kind, e, pid, ep, off, []⟩, none, 0, 0, rfl, bare_rin _ _ rfl, ⟨bounds_i8 b0, bounds_i64 b1, bounds_i64 b2, bounds_i64 b3, bounds_i64 b4⟩, fun r hr => by cases hr⟩
  · simp only [List.cons.injEq, and_true] at hcs
    subst hcs
    obtain ⟨rs, k1, k2, k3, k4, k5⟩ := rows_in f5'
    exact ⟨⟨kind, e, pid, ep, off, rs⟩, some ad, l, c, rfl, ⟨k1, k3, k2, by omega, fun y hy => ⟨(k5 y hy).k, (k5 y hy).v⟩⟩, ⟨bounds_i8 b0, bounds_i64 b1, bounds_i64 b2, bounds_i64 b3, bounds_i64 b4⟩, k5⟩
set_option maxRecDepth 100000 in
theorem reply_in {r : Reach} {b0 : Nat} {v : Value} {d : DataW H} {q : List MemPlace} (hv : Value.okWide Tryd.prog w r b0 26 v) (h : DataW.Trod enc Tryd.prog w base spare held 26 v d q) : ∃ (y : Rp) (A : Option Addr) (n c : Nat), v = .agg (rpvals y A n c) ∧ RGot w y A n c := by
  have hC : Tryd.prog.cellsOf 26 = 6 := by kernel_rfl
  obtain ⟨cs, rfl, hsz⟩ := WideShapes.okWide_struct Tryd.underlying26 hv
  rw [hC] at hsz
  obtain ⟨fuel, ht⟩ := h
  obtain ⟨l⟩ := cs
  obtain ⟨y, A, n, c, hl, hp⟩ := reply_cells_in (l := l) (by simpa using hsz) ht
  exact ⟨y, A, n, c, by rw [hl], hp⟩
end
theorem RGot.below {w w' : World} {x : Rp} {A : Option Addr} {n c : Nat} (h : RGot w x A n c) (hb : Below w.heap.size w w') : RGot w' x A n c := ⟨(h.rin.below hb).up hb.size, h.fit, h.rows⟩
end Go.Proofs.YtplpagnnlggfgaaDoor
