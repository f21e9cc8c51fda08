/-
  Slices of readings and of fields that came in, opened to their cells. No conditions.
-/
import Derived.Test.YtkeekecaojpkjaaFldMem
import Derived.Deep.Slices
import Derived.ChangeArms
namespace Go.Proofs.Ytkeekecaojpkjaa
open Go.RowKit

theorem cut1 {α : Type} (l : List α) (i : Nat) (x : α) (h : l[i]? = some x) : (l.drop i).take 1 = [x] := by
  obtain ⟨hi, he⟩ := List.getElem?_eq_some_iff.1 h
  rw [List.drop_eq_getElem_cons hi, he]
  rfl
theorem at_some {α : Type} (l : List α) (i n : Nat) (hl : l.length = n) (hi : i < n) : ∃ x, l[i]? = some x := ⟨_, List.getElem?_eq_getElem (by omega)⟩

section
variable {H : Type} {enc : TypeId × Value → H} {w : World} {base : Nat} {spare : Nat → Bool} {held : Bool} {fuel : Nat} {a : Option Addr} {len cap : Nat} {x : DataW H × List MemPlace}

theorem spot_none {w : World} {ad : Addr} {v : Value} (h : w.cell? ((ad.add (0 * 3)).add 0) = some v) : ∃ b off, ad = ⟨b, off, none⟩ ∧ b < w.heap.size := by
  have he : (ad.add (0 * 3)).add 0 = ad := by simp [Addr.add]
  rw [he] at h
  obtain ⟨b, off, spot⟩ := ad
  have hs : spot = none := World.cell?_spot h
  subst hs
  exact ⟨b, off, rfl, World.block_lt_of_cell? w _ h⟩

theorem takes_in_le (h : DataW.trod enc Try.prog w base spare held fuel 31 [.slice a len cap] = some x) : len ≤ maxLen := by
  rcases Deep.open_slice Try.underlying31 h with ⟨hcs, _⟩ | ⟨ad, l, c, m, n, D, Pl, hcs, _, hl, hm, _⟩
  · simp at hcs; omega
  · simp at hcs; omega
theorem items_in_le (h : DataW.trod enc Try.prog w base spare held fuel 45 [.slice a len cap] = some x) : len ≤ maxLen := by
  rcases Deep.open_slice Try.underlying45 h with ⟨hcs, _⟩ | ⟨ad, l, c, m, n, D, Pl, hcs, _, hl, hm, _⟩
  · simp at hcs; omega
  · simp at hcs; omega

theorem takes_in (h : DataW.trod enc Try.prog w base spare held fuel 31 [.slice a len cap] = some x) :
    ∀ i, i < len → ∃ b off d p q, a = some ⟨b, off, none⟩ ∧ b < w.heap.size ∧ w.cell? ⟨b, off + i * 3, none⟩ = some (.int .i64 d) ∧ w.cell? ⟨b, off + i * 3 + 1, none⟩ = some (.int .i64 p) ∧ w.cell? ⟨b, off + i * 3 + 2, none⟩ = some (.int .i64 q) := by
  have hC : Try.prog.cellsOf 37 = 3 := by kernel_rfl
  have hI : Try.prog.cellsOf 3 = 1 := by kernel_rfl
  rcases Deep.open_slice Try.underlying31 h with ⟨hcs, _⟩ | ⟨ad, l, c, m, n, D, Pl, hcs, _, _, _, hm, _, hi⟩
  · simp at hcs
    intro i hi
    omega
  · simp at hcs
    obtain ⟨rfl, rfl, rfl⟩ := hcs
    intro i hil
    obtain ⟨cs', hc, ht⟩ := hi i (by rw [hm]; split <;> omega)
    rw [hC] at hc
    obtain ⟨_, hl, hat⟩ := World.cells?_some hc
    obtain ⟨xs, n', _, _, _, hxl, hf⟩ := DataW.trod_struct Try.underlying37 ht
    obtain ⟨c0, h0⟩ := at_some cs' 0 3 hl (by omega)
    obtain ⟨c1, h1⟩ := at_some cs' 1 3 hl (by omega)
    obtain ⟨c2, h2⟩ := at_some cs' 2 3 hl (by omega)
    obtain ⟨y0, g0⟩ := at_some xs 0 3 hxl (by omega)
    obtain ⟨y1, g1⟩ := at_some xs 1 3 hxl (by omega)
    obtain ⟨y2, g2⟩ := at_some xs 2 3 hxl (by omega)
    have f0 : DataW.trod enc Try.prog w base spare held n' 3 ((cs'.drop 0).take (Try.prog.cellsOf 3)) = xs[0]? := hf 0 _ rfl
    have f1 : DataW.trod enc Try.prog w base spare held n' 3 ((cs'.drop 1).take (Try.prog.cellsOf 3)) = xs[1]? := hf 1 _ rfl
    have f2 : DataW.trod enc Try.prog w base spare held n' 3 ((cs'.drop 2).take (Try.prog.cellsOf 3)) = xs[2]? := hf 2 _ rfl
    rw [hI, cut1 _ _ _ h0, g0] at f0
    rw [hI, cut1 _ _ _ h1, g1] at f1
    rw [hI, cut1 _ _ _ h2, g2] at f2
    obtain ⟨d, e0, _⟩ := DataW.trod_int Try.underlying3 f0
    obtain ⟨p, e1, _⟩ := DataW.trod_int Try.underlying3 f1
    obtain ⟨q, e2, _⟩ := DataW.trod_int Try.underlying3 f2
    simp only [List.cons.injEq, and_true] at e0 e1 e2
    subst e0 e1 e2
    have k0 := hat 0 (by omega)
    have k1 := hat 1 (by omega)
    have k2 := hat 2 (by omega)
    rw [h0] at k0
    rw [h1] at k1
    rw [h2] at k2
    obtain ⟨i0, hi0⟩ : ∃ i0 : Nat, i0 = 0 := ⟨0, rfl⟩
    obtain ⟨cs0, hc0, _⟩ := hi i0 (by rw [hm]; split <;> omega)
    rw [hC] at hc0
    obtain ⟨_, hl0, hat0⟩ := World.cells?_some hc0
    obtain ⟨z, hz⟩ := at_some cs0 0 3 hl0 (by omega)
    subst hi0
    obtain ⟨b, off, rfl, hb⟩ := spot_none ((hat0 0 (by omega)).trans hz)
    simp only [plain_add] at k0 k1 k2
    exact ⟨b, off, d, p, q, rfl, hb, by simpa using k0, k1, k2⟩

theorem items_in (h : DataW.trod enc Try.prog w base spare held fuel 45 [.slice a len cap] = some x) :
    ∀ i, i < len → ∃ b off d p q, a = some ⟨b, off, none⟩ ∧ b < w.heap.size ∧ w.cell? ⟨b, off + i * 3, none⟩ = some (.int .i64 d) ∧ w.cell? ⟨b, off + i * 3 + 1, none⟩ = some (.int .i64 p) ∧ w.cell? ⟨b, off + i * 3 + 2, none⟩ = some (.string q) ∧ q.size ≤ maxLen := by
  have hC : Try.prog.cellsOf 47 = 3 := by kernel_rfl
  have hS : Try.prog.cellsOf 9 = 1 := by kernel_rfl
  have hI : Try.prog.cellsOf 3 = 1 := by kernel_rfl
  rcases Deep.open_slice Try.underlying45 h with ⟨hcs, _⟩ | ⟨ad, l, c, m, n, D, Pl, hcs, _, _, _, hm, _, hi⟩
  · simp at hcs
    intro i hi
    omega
  · simp at hcs
    obtain ⟨rfl, rfl, rfl⟩ := hcs
    intro i hil
    obtain ⟨cs', hc, ht⟩ := hi i (by rw [hm]; split <;> omega)
    rw [hC] at hc
    obtain ⟨_, hl, hat⟩ := World.cells?_some hc
    obtain ⟨xs, n', _, _, _, hxl, hf⟩ := DataW.trod_struct Try.underlying47 ht
    obtain ⟨c0, h0⟩ := at_some cs' 0 3 hl (by omega)
    obtain ⟨c1, h1⟩ := at_some cs' 1 3 hl (by omega)
    obtain ⟨c2, h2⟩ := at_some cs' 2 3 hl (by omega)
    obtain ⟨y0, g0⟩ := at_some xs 0 3 hxl (by omega)
    obtain ⟨y1, g1⟩ := at_some xs 1 3 hxl (by omega)
    obtain ⟨y2, g2⟩ := at_some xs 2 3 hxl (by omega)
    have f0 : DataW.trod enc Try.prog w base spare held n' 3 ((cs'.drop 0).take (Try.prog.cellsOf 3)) = xs[0]? := hf 0 _ rfl
    have f1 : DataW.trod enc Try.prog w base spare held n' 3 ((cs'.drop 1).take (Try.prog.cellsOf 3)) = xs[1]? := hf 1 _ rfl
    have f2 : DataW.trod enc Try.prog w base spare held n' 9 ((cs'.drop 2).take (Try.prog.cellsOf 9)) = xs[2]? := hf 2 _ rfl
    rw [hI, cut1 _ _ _ h0, g0] at f0
    rw [hI, cut1 _ _ _ h1, g1] at f1
    rw [hS, cut1 _ _ _ h2, g2] at f2
    obtain ⟨d, e0, _⟩ := DataW.trod_int Try.underlying3 f0
    obtain ⟨p, e1, _⟩ := DataW.trod_int Try.underlying3 f1
    obtain ⟨q, e2, _, hq⟩ := DataW.trod_string Try.underlying9 f2
    simp only [List.cons.injEq, and_true] at e0 e1 e2
    subst e0 e1 e2
    have k0 := hat 0 (by omega)
    have k1 := hat 1 (by omega)
    have k2 := hat 2 (by omega)
    rw [h0] at k0
    rw [h1] at k1
    rw [h2] at k2
    obtain ⟨i0, hi0⟩ : ∃ i0 : Nat, i0 = 0 := ⟨0, rfl⟩
    obtain ⟨cs0, hc0, _⟩ := hi i0 (by rw [hm]; split <;> omega)
    rw [hC] at hc0
    obtain ⟨_, hl0, hat0⟩ := World.cells?_some hc0
    obtain ⟨z, hz⟩ := at_some cs0 0 3 hl0 (by omega)
    subst hi0
    obtain ⟨b, off, rfl, hb⟩ := spot_none ((hat0 0 (by omega)).trans hz)
    simp only [plain_add] at k0 k1 k2
    exact ⟨b, off, d, p, q, rfl, hb, by simpa using k0, k1, k2, hq⟩
end

end Go.Proofs.Ytkeekecaojpkjaa
