/-
  A disk that came in by value, opened to its files; the laid variable's cell; a world that is laid so. No conditions.
-/
import Derived.Test.YtpppeadmhfggkaaGreatDoorFilG2
import Derived.Deep.Slices
import Derived.ChangeArms
import Derived.Lib.SmallJoins
import Derived.LaidLaws
import Derived.LaidHandle
import Derived.OpenShut
namespace Go.Proofs.YtpppeadmhfggkaaGreatDoor
open Go.RowKit DP

theorem in_cut {α : Type} (l : List α) (i : Nat) (x : α) (h : l[i]? = some x) : (l.drop i).take 1 = [x] := by
  obtain ⟨hi, he⟩ := List.getElem?_eq_some_iff.1 h
  rw [List.drop_eq_getElem_cons hi, he]
  rfl
theorem in_some {α : Type} (l : List α) (i n : Nat) (hl : l.length = n) (hi : i < n) : ∃ x, l[i]? = some x := ⟨_, List.getElem?_eq_getElem (by omega)⟩
theorem in_spot {w : World} {ad : Addr} {v : Value} (h : w.cell? ((ad.add (0 * 3)).add 0) = some v) : ∃ b off, ad = ⟨b, off, none⟩ ∧ b < w.heap.size := by
  have he : (ad.add (0 * 3)).add 0 = ad := by simp [Addr.add]
  rw [he] at h
  obtain ⟨b, off, spot⟩ := ad
  have hs : spot = none := World.cell?_spot h
  subst hs
  exact ⟨b, off, rfl, World.block_lt_of_cell? w _ h⟩
theorem in_choose {α : Type} {p : Nat → α → Prop} : ∀ (n : Nat), (∀ i, i < n → ∃ x, p i x) → ∃ xs : List α, xs.length = n ∧ ∀ i x, xs[i]? = some x → p i x := by
  intro n
  induction n with
  | zero => intro _; exact ⟨[], rfl, by simp⟩
  | succ n ih =>
    intro h
    obtain ⟨xs, hl, hx⟩ := ih fun i hi => h i (by omega)
    obtain ⟨x, hp⟩ := h n (by omega)
    refine ⟨xs ++ [x], by simp [hl], fun i y hy => ?_⟩
    by_cases hi : i < n
    · rw [List.getElem?_append_left (by omega)] at hy
      exact hx i y hy
    · rw [List.getElem?_append_right (by omega)] at hy
      have he : i = n := by
        by_cases hk : i - xs.length = 0
        · omega
        · rw [List.getElem?_eq_none (by simp; omega)] at hy
          simp at hy
      subst he
      simp [hl] at hy
      subst hy
      exact hp
theorem fcells_all {w : World} {b off : Nat} {fs : List Fl} (h : ∀ k f, fs[k]? = some f → w.cell? ⟨b, off + k * 3, none⟩ = some (.string f.n) ∧ w.cell? ⟨b, off + k * 3 + 1, none⟩ = some (.string f.b) ∧ w.cell? ⟨b, off + k * 3 + 2, none⟩ = some (.int .i64 f.s)) :
    ∀ j u, (fcells fs)[j]? = some u → w.cell? ⟨b, off + j, none⟩ = some u := by
  intro j u hj
  have hlt : j < fs.length * 3 := by
    rw [← fcells_length]
    exact (List.getElem?_eq_some_iff.1 hj).1
  obtain ⟨f, hf⟩ := in_some fs (j / 3) fs.length rfl (by omega)
  obtain ⟨e0, e1, e2⟩ := fcells_at hf
  obtain ⟨h0, h1, h2⟩ := h _ _ hf
  have hr : j % 3 = 0 ∨ j % 3 = 1 ∨ j % 3 = 2 := by omega
  rcases hr with hr | hr | hr
  · have e : j / 3 * 3 = j := by omega
    rw [e] at e0 h0
    exact h0.trans (e0.symm.trans hj)
  · have e : j / 3 * 3 + 1 = j := by omega
    have e' : off + j / 3 * 3 + 1 = off + j := by omega
    rw [e] at e1
    rw [e'] at h1
    exact h1.trans (e1.symm.trans hj)
  · have e : j / 3 * 3 + 2 = j := by omega
    have e' : off + j / 3 * 3 + 2 = off + j := by omega
    rw [e] at e2
    rw [e'] at h2
    exact h2.trans (e2.symm.trans hj)

section
variable {H : Type} {enc : TypeId × Value → H} {w : World} {base : Nat} {spare : Nat → Bool} {held : Bool} {fuel : Nat} {a : Option Addr} {len cap : Nat} {x : DataW H × List MemPlace}

theorem files_in (h : DataW.trod enc Tryz.prog w base spare held fuel 22 [.slice a len cap] = some x) :
    ∃ fs : List Fl, fs.length = len ∧ len ≤ cap ∧ Seen w w.heap.size a (fcells fs) ∧ len ≤ maxLen ∧ ∀ f ∈ fs, f.b.size ≤ maxLen ∧ f.n.size ≤ maxLen := by
  have hC : Tryz.prog.cellsOf 48 = 3 := by kernel_rfl
  have hS : Tryz.prog.cellsOf 9 = 1 := by kernel_rfl
  have hI : Tryz.prog.cellsOf 3 = 1 := by kernel_rfl
  rcases Deep.open_slice Tryz.underlying22 h with ⟨hcs, _⟩ | ⟨ad, l, c, m, n, D, Pl, hcs, _, hlc, hcm, hm, _, hi⟩
  · simp at hcs
    obtain ⟨rfl, rfl, rfl⟩ := hcs
    exact ⟨[], rfl, Nat.le_refl _, Seen.nil _ _ _, Nat.zero_le _, by simp⟩
  · simp at hcs
    obtain ⟨rfl, rfl, rfl⟩ := hcs
    have one : ∀ i, i < len → ∃ f : Fl, ∃ b off, ad = ⟨b, off, none⟩ ∧ b < w.heap.size ∧ (w.cell? ⟨b, off + i * 3, none⟩ = some (.string f.n) ∧ w.cell? ⟨b, off + i * 3 + 1, none⟩ = some (.string f.b) ∧ w.cell? ⟨b, off + i * 3 + 2, none⟩ = some (.int .i64 f.s)) ∧ f.b.size ≤ maxLen ∧ f.n.size ≤ maxLen := by
      intro i hil
      obtain ⟨cs', hc, ht⟩ := hi i (by rw [hm]; split <;> omega)
      rw [hC] at hc
      obtain ⟨_, hl, hat⟩ := World.cells?_some hc
      obtain ⟨xs, n', _, _, _, hxl, hf⟩ := DataW.trod_struct Tryz.underlying48 ht
      obtain ⟨c0, h0⟩ := in_some cs' 0 3 hl (by omega)
      obtain ⟨c1, h1⟩ := in_some cs' 1 3 hl (by omega)
      obtain ⟨c2, h2⟩ := in_some cs' 2 3 hl (by omega)
      obtain ⟨y0, g0⟩ := in_some xs 0 3 hxl (by omega)
      obtain ⟨y1, g1⟩ := in_some xs 1 3 hxl (by omega)
      obtain ⟨y2, g2⟩ := in_some xs 2 3 hxl (by omega)
      have f0 : DataW.trod enc Tryz.prog w base spare held n' 9 ((cs'.drop 0).take (Tryz.prog.cellsOf 9)) = xs[0]? := hf 0 _ rfl
      have f1 : DataW.trod enc Tryz.prog w base spare held n' 9 ((cs'.drop 1).take (Tryz.prog.cellsOf 9)) = xs[1]? := hf 1 _ rfl
      have f2 : DataW.trod enc Tryz.prog w base spare held n' 3 ((cs'.drop 2).take (Tryz.prog.cellsOf 3)) = xs[2]? := hf 2 _ rfl
      rw [hS, in_cut _ _ _ h0, g0] at f0
      rw [hS, in_cut _ _ _ h1, g1] at f1
      rw [hI, in_cut _ _ _ h2, g2] at f2
      obtain ⟨d, e0, _, hd⟩ := DataW.trod_string Tryz.underlying9 f0
      obtain ⟨p, e1, _, hp⟩ := DataW.trod_string Tryz.underlying9 f1
      obtain ⟨q, e2, _⟩ := DataW.trod_int Tryz.underlying3 f2
      simp only [List.cons.injEq, and_true] at e0 e1 e2
      subst e0 e1 e2
      have k0 := hat 0 (by omega)
      have k1 := hat 1 (by omega)
      have k2 := hat 2 (by omega)
      rw [h0] at k0
      rw [h1] at k1
      rw [h2] at k2
      obtain ⟨i0, hi0⟩ : ∃ i0 : Nat, i0 = 0 := ⟨0, rfl⟩
      obtain ⟨cs0, hc0, _⟩ := hi i0 (by rw [hm]; split <;> omega)
      rw [hC] at hc0
      obtain ⟨_, hl0, hat0⟩ := World.cells?_some hc0
      obtain ⟨z, hz⟩ := in_some cs0 0 3 hl0 (by omega)
      subst hi0
      obtain ⟨b, off, rfl, hb⟩ := in_spot ((hat0 0 (by omega)).trans hz)
      simp only [plain_add] at k0 k1 k2
      exact ⟨⟨d, p, q⟩, b, off, rfl, hb, ⟨by simpa using k0, k1, k2⟩, hp, hd⟩
    obtain ⟨fs, hlen, hfs⟩ := in_choose len one
    refine ⟨fs, hlen, by omega, fun hne => ?_, by omega, fun f hf => ?_⟩
    · obtain ⟨f, hf⟩ := in_some fs 0 fs.length rfl (by
        rcases fs with _ | ⟨f, r⟩
        · exact absurd rfl hne
        · simp)
      obtain ⟨b, off, rfl, hb, _, _⟩ := hfs 0 f hf
      refine ⟨b, off, rfl, hb, fcells_all fun k g hg => ?_⟩
      obtain ⟨b', off', he, _, hk, _⟩ := hfs k g hg
      injection he with h1 h2
      subst h1 h2
      exact hk
    · obtain ⟨k, hk⟩ := List.mem_iff_getElem?.1 hf
      obtain ⟨_, _, _, _, _, hh⟩ := hfs k f hk
      exact hh

set_option maxRecDepth 100000 in
theorem disk_in {r : Reach} {b0 : Nat} {v : Value} {d : DataW H} {p : List MemPlace} (hv : Value.okWide Tryz.prog w r b0 24 v) (h : DataW.Trod enc Tryz.prog w base spare held 24 v d p) :
    ∃ (A : Option Addr) (n c : Nat) (fs : List Fl) (cap left : Int) (down : Bool), v = .agg #[.slice A n c, .int .i64 cap, .int .i64 left, .bool down] ∧ fs.length = n ∧ n ≤ c ∧ Seen w w.heap.size A (fcells fs) ∧ n ≤ 9223372036854775807 ∧
      (∀ f ∈ fs, f.b.size ≤ 9223372036854775807 ∧ f.n.size ≤ 9223372036854775807) ∧ (-9223372036854775808 ≤ cap ∧ cap ≤ 9223372036854775807) ∧ (-9223372036854775808 ≤ left ∧ left ≤ 9223372036854775807) := by
  have hC : Tryz.prog.cellsOf 24 = 4 := by kernel_rfl
  obtain ⟨v0, v1, v2, v3, y0, y1, y2, y3, n, rfl, _, _, h0, h1, h2, h3⟩ := Go.Joins.open_agg4 Tryz.underlying24 (by kernel_rfl) hC hv h
  obtain ⟨cap, e1, _, w1⟩ := DataW.trod_int Tryz.underlying3 h1
  obtain ⟨left, e2, _, w2⟩ := DataW.trod_int Tryz.underlying3 h2
  obtain ⟨down, e3, _⟩ := DataW.trod_bool Tryz.underlying4 h3
  have h0' := h0
  have hml : maxLen ≤ 9223372036854775807 := by decide
  rcases Deep.open_slice Tryz.underlying22 h0 with ⟨hcs, _⟩ | ⟨ad, l, c, m, n, D, Pl, hcs, _⟩
  · simp only [List.cons.injEq, and_true] at hcs e1 e2 e3
    subst hcs e1 e2 e3
    exact ⟨none, 0, 0, [], cap, left, down, rfl, rfl, Nat.le_refl _, Seen.nil _ _ _, Nat.zero_le _, (fun f hf => by cases hf), bounds_i64 w1, bounds_i64 w2⟩
  · simp only [List.cons.injEq, and_true] at hcs e1 e2 e3
    subst hcs e1 e2 e3
    obtain ⟨fs, hl, hlc, hs, hm, hf⟩ := files_in h0'
    exact ⟨some ad, l, c, fs, cap, left, down, rfl, hl, hlc, hs, Nat.le_trans hm hml, fun f hh => ⟨Nat.le_trans (hf f hh).1 hml, Nat.le_trans (hf f hh).2 hml⟩, bounds_i64 w1, bounds_i64 w2⟩
end
end Go.Proofs.YtpppeadmhfggkaaGreatDoor
