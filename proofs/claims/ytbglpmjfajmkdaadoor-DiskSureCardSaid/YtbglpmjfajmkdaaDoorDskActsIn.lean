/-
  A script that came in, as a list of acts in memory. No conditions.
-/
import Derived.Test.YtbglpmjfajmkdaaDoorDskActs
import Derived.Test.YtbglpmjfajmkdaaDoorDskIn2
namespace Go.Proofs.YtbglpmjfajmkdaaDoor
open Go.RowKit DP
section
variable {H : Type} {enc : TypeId × Value → H} {w : World} {base : Nat} {spare : Nat → Bool} {held : Bool} {fuel : Nat} {a : Option Addr} {len cap : Nat} {x : DataW H × List MemPlace}

theorem spot7 {w : World} {ad : Addr} {v : Value} (h : w.cell? ((ad.add (0 * 7)).add 0) = some v) : ∃ b off, ad = ⟨b, off, none⟩ ∧ b < w.heap.size := by
  have he : (ad.add (0 * 7)).add 0 = ad := by simp [Addr.add]
  rw [he] at h
  obtain ⟨b, off, spot⟩ := ad
  have hs : spot = none := World.cell?_spot h
  subst hs
  exact ⟨b, off, rfl, World.block_lt_of_cell? w _ h⟩
theorem in_four {α : Type} {l : List α} {i : Nat} {a b c d : α} (h0 : l[i]? = some a) (h1 : l[i + 1]? = some b) (h2 : l[i + 2]? = some c) (h3 : l[i + 3]? = some d) : (l.drop i).take 4 = [a, b, c, d] := by
  obtain ⟨k0, e0⟩ := List.getElem?_eq_some_iff.1 h0
  obtain ⟨k1, e1⟩ := List.getElem?_eq_some_iff.1 h1
  obtain ⟨k2, e2⟩ := List.getElem?_eq_some_iff.1 h2
  obtain ⟨k3, e3⟩ := List.getElem?_eq_some_iff.1 h3
  rw [List.drop_eq_getElem_cons k0, List.drop_eq_getElem_cons k1, List.drop_eq_getElem_cons k2, List.drop_eq_getElem_cons k3, e0, e1, e2, e3]
  rfl
theorem write4 {w : World} {cs : List Value} {y : DataW H × List MemPlace} (h : DataW.trod enc Tryd.prog w base spare held fuel 27 cs = some y) (hl : cs.length = 4) :
    ∃ (op : Int) (file b : ByteArray) (k : Int), cs = [.int .i8 op, .string file, .string b, .int .i64 k] ∧ b.size ≤ maxLen ∧ file.size ≤ maxLen := by
  have hS : Tryd.prog.cellsOf 9 = 1 := by kernel_rfl
  have hI : Tryd.prog.cellsOf 3 = 1 := by kernel_rfl
  have hB : Tryd.prog.cellsOf 25 = 1 := by kernel_rfl
  obtain ⟨xs, n', _, _, _, hxl, hf⟩ := DataW.trod_struct Tryd.underlying27 h
  obtain ⟨c0, h0⟩ := in_some cs 0 4 hl (by omega)
  obtain ⟨c1, h1⟩ := in_some cs 1 4 hl (by omega)
  obtain ⟨c2, h2⟩ := in_some cs 2 4 hl (by omega)
  obtain ⟨c3, h3⟩ := in_some cs 3 4 hl (by omega)
  obtain ⟨y0, g0⟩ := in_some xs 0 4 hxl (by omega)
  obtain ⟨y1, g1⟩ := in_some xs 1 4 hxl (by omega)
  obtain ⟨y2, g2⟩ := in_some xs 2 4 hxl (by omega)
  obtain ⟨y3, g3⟩ := in_some xs 3 4 hxl (by omega)
  have f0 : DataW.trod enc Tryd.prog w base spare held n' 25 ((cs.drop 0).take (Tryd.prog.cellsOf 25)) = xs[0]? := hf 0 _ rfl
  have f1 : DataW.trod enc Tryd.prog w base spare held n' 9 ((cs.drop 1).take (Tryd.prog.cellsOf 9)) = xs[1]? := hf 1 _ rfl
  have f2 : DataW.trod enc Tryd.prog w base spare held n' 9 ((cs.drop 2).take (Tryd.prog.cellsOf 9)) = xs[2]? := hf 2 _ rfl
  have f3 : DataW.trod enc Tryd.prog w base spare held n' 3 ((cs.drop 3).take (Tryd.prog.cellsOf 3)) = xs[3]? := hf 3 _ rfl
  rw [hB, in_cut _ _ _ h0, g0] at f0
  rw [hS, in_cut _ _ _ h1, g1] at f1
  rw [hS, in_cut _ _ _ h2, g2] at f2
  rw [hI, in_cut _ _ _ h3, g3] at f3
  obtain ⟨o, e0, _⟩ := DataW.trod_int Tryd.underlying25 f0
  obtain ⟨d, e1, _, hd⟩ := DataW.trod_string Tryd.underlying9 f1
  obtain ⟨p, e2, _, hp⟩ := DataW.trod_string Tryd.underlying9 f2
  obtain ⟨q, e3, _⟩ := DataW.trod_int Tryd.underlying3 f3
  simp only [List.cons.injEq, and_true] at e0 e1 e2 e3
  subst e0 e1 e2 e3
  refine ⟨o, d, p, q, ?_, hp, hd⟩
  have := in_four h0 h1 h2 h3
  rw [List.drop_zero, List.take_of_length_le (by omega)] at this
  exact this

set_option maxRecDepth 100000 in
theorem acts_in (h : DataW.trod enc Tryd.prog w base spare held fuel 48 [.slice a len cap] = some x) :
    ∃ l : List AcM, l.length = len ∧ Script w w.heap.size a l ∧ len ≤ maxLen ∧ ∀ y ∈ l, AcFits y := by
  have hC : Tryd.prog.cellsOf 51 = 7 := by kernel_rfl
  have hW : Tryd.prog.cellsOf 27 = 4 := by kernel_rfl
  have hI : Tryd.prog.cellsOf 3 = 1 := by kernel_rfl
  have hK : Tryd.prog.cellsOf 28 = 1 := by kernel_rfl
  have hml : maxLen ≤ 9223372036854775807 := by decide
  rcases Deep.open_slice Tryd.underlying48 h with ⟨hcs, _⟩ | ⟨ad, l, c, m, n, D, Pl, hcs, _, hlc, hcm, hm, _, hi⟩
  · simp at hcs
    obtain ⟨rfl, rfl, rfl⟩ := hcs
    exact ⟨[], rfl, ⟨Seen.nil _ _ _, fun x hx => by cases hx⟩, Nat.zero_le _, fun x hx => by cases hx⟩
  · simp at hcs
    obtain ⟨rfl, rfl, rfl⟩ := hcs
    have one : ∀ i, i < len → ∃ y : AcM, ∃ b off, ad = ⟨b, off, none⟩ ∧ b < w.heap.size ∧ (∀ j u, (acell y)[j]? = some u → w.cell? ⟨b, off + i * 7 + j, none⟩ = some u) ∧ Seen w w.heap.size y.K (y.a.keep.map (Value.int .i64)) ∧ AcFits y := by
      intro i hil
      obtain ⟨cs', hc, ht⟩ := hi i (by rw [hm]; split <;> omega)
      rw [hC] at hc
      obtain ⟨_, hl, hat⟩ := World.cells?_some hc
      obtain ⟨xs, n', _, _, _, hxl, hf⟩ := DataW.trod_struct Tryd.underlying51 ht
      obtain ⟨c0, h0⟩ := in_some cs' 0 7 hl (by omega)
      obtain ⟨c1, h1⟩ := in_some cs' 1 7 hl (by omega)
      obtain ⟨c2, h2⟩ := in_some cs' 2 7 hl (by omega)
      obtain ⟨c3, h3⟩ := in_some cs' 3 7 hl (by omega)
      obtain ⟨c4, h4⟩ := in_some cs' 4 7 hl (by omega)
      obtain ⟨c5, h5⟩ := in_some cs' 5 7 hl (by omega)
      obtain ⟨c6, h6⟩ := in_some cs' 6 7 hl (by omega)
      obtain ⟨y0, g0⟩ := in_some xs 0 4 hxl (by omega)
      obtain ⟨y1, g1⟩ := in_some xs 1 4 hxl (by omega)
      obtain ⟨y2, g2⟩ := in_some xs 2 4 hxl (by omega)
      obtain ⟨y3, g3⟩ := in_some xs 3 4 hxl (by omega)
      have f0 : DataW.trod enc Tryd.prog w base spare held n' 3 ((cs'.drop 0).take (Tryd.prog.cellsOf 3)) = xs[0]? := hf 0 _ rfl
      have f1 : DataW.trod enc Tryd.prog w base spare held n' 27 ((cs'.drop 1).take (Tryd.prog.cellsOf 27)) = xs[1]? := hf 1 _ rfl
      have f2 : DataW.trod enc Tryd.prog w base spare held n' 28 ((cs'.drop 5).take (Tryd.prog.cellsOf 28)) = xs[2]? := hf 2 _ rfl
      have f3 : DataW.trod enc Tryd.prog w base spare held n' 3 ((cs'.drop 6).take (Tryd.prog.cellsOf 3)) = xs[3]? := hf 3 _ rfl
      rw [hI, in_cut _ _ _ h0, g0] at f0
      rw [hW, in_four h1 h2 h3 h4, g1] at f1
      rw [hK, in_cut _ _ _ h5, g2] at f2
      rw [hI, in_cut _ _ _ h6, g3] at f3
      obtain ⟨act, e0, _⟩ := DataW.trod_int Tryd.underlying3 f0
      obtain ⟨op, file, b, k, e1, hb1, hb2⟩ := write4 f1 rfl
      obtain ⟨num, e3, _, hw3⟩ := DataW.trod_int Tryd.underlying3 f3
      obtain ⟨K, kn, kc, rfl⟩ : ∃ K kn kc, c5 = .slice K kn kc := by
        rcases Deep.open_slice Tryd.underlying28 f2 with ⟨hcs, _⟩ | ⟨ad2, l2, c2_, _, _, _, _, hcs, _⟩
        · simp only [List.cons.injEq, and_true] at hcs; exact ⟨_, _, _, hcs⟩
        · simp only [List.cons.injEq, and_true] at hcs; exact ⟨_, _, _, hcs⟩
      obtain ⟨keep, hkl, hks, hkm, hkw⟩ := numbers_in f2
      simp only [List.cons.injEq, and_true] at e0 e1 e3
      obtain ⟨rfl, rfl, rfl, rfl⟩ := e1
      subst e0 e3
      obtain ⟨cs0, hc0, _⟩ := hi 0 (by rw [hm]; split <;> omega)
      rw [hC] at hc0
      obtain ⟨_, hl0, hat0⟩ := World.cells?_some hc0
      obtain ⟨z, hz⟩ := in_some cs0 0 7 hl0 (by omega)
      obtain ⟨bb, off, rfl, hbb⟩ := spot7 ((hat0 0 (by omega)).trans hz)
      have cells : ∀ j u, cs'[j]? = some u → w.cell? ⟨bb, off + i * 7 + j, none⟩ = some u := fun j u hu => by
        have hj : j < 7 := by rw [← hl]; exact (List.getElem?_eq_some_iff.1 hu).1
        have := hat j hj
        rw [hu] at this
        simpa only [plain_add] using this
      refine ⟨⟨⟨act, ⟨op, file, b, k⟩, keep, num⟩, K, kc⟩, bb, off, rfl, hbb, fun j u hu => cells j u ?_, hks, ⟨⟨Nat.le_trans hb1 hml, Nat.le_trans hb2 hml⟩, by simp only; omega, hkw, (bounds_i64 hw3).2⟩⟩
      have hj : j < 7 := (List.getElem?_eq_some_iff.1 hu).1
      rw [← hu]
      have hj' : j = 0 ∨ j = 1 ∨ j = 2 ∨ j = 3 ∨ j = 4 ∨ j = 5 ∨ j = 6 := by omega
      rcases hj' with rfl | rfl | rfl | rfl | rfl | rfl | rfl
      · exact h0
      · exact h1
      · exact h2
      · exact h3
      · exact h4
      · rw [h5]; simp only [acell, hkl]; rfl
      · exact h6
    obtain ⟨ys, hlen, hys⟩ := in_choose len one
    refine ⟨ys, hlen, ⟨fun hne => ?_, fun y hy => ?_⟩, by omega, fun y hy => ?_⟩
    · obtain ⟨y, hy⟩ := in_some ys 0 ys.length rfl (by
        rcases ys with _ | ⟨y, r⟩
        · exact absurd rfl hne
        · simp)
      obtain ⟨b, off, rfl, hb, _⟩ := hys 0 y hy
      refine ⟨b, off, rfl, hb, fun j u hj => ?_⟩
      have hlt : j < ys.length * 7 := by
        rw [← flat_length acell 7 (fun _ => rfl)]
        exact (List.getElem?_eq_some_iff.1 hj).1
      obtain ⟨z, hz⟩ := in_some ys (j / 7) ys.length rfl (by omega)
      have h7 := flat_at acell 7 (fun _ => rfl) hz (j % 7) (by omega)
      rw [show j / 7 * 7 + j % 7 = j by omega] at h7
      obtain ⟨b', off', he, _, hk, _⟩ := hys _ z hz
      injection he with e1 e2
      subst e1 e2
      have := hk (j % 7) u (h7.symm.trans hj)
      rwa [show off + j / 7 * 7 + j % 7 = off + j by omega] at this
    · obtain ⟨k, hk⟩ := List.mem_iff_getElem?.1 hy
      obtain ⟨_, _, _, _, _, hh, _⟩ := hys k y hk
      exact hh
    · obtain ⟨k, hk⟩ := List.mem_iff_getElem?.1 hy
      obtain ⟨_, _, _, _, _, _, hh⟩ := hys k y hk
      exact hh
end
end Go.Proofs.YtbglpmjfajmkdaaDoor
