/-
  Rows of entries and of loads that came in, opened to what lies behind them. No conditions.
-/
import Derived.Test.YtchpemgamgcbkaaGreatEntIn
import Derived.Test.YtchpemgamgcbkaaGreatEntRowMem
import Derived.Deep.Slices
namespace Go.Proofs.YtchpemgamgcbkaaGreat
open Go.RowKit

section
variable {H : Type} {enc : TypeId × Value → H} {w : World} {base : Nat} {spare : Nat → Bool} {held : Bool} {fuel : Nat} {a : Option Addr} {len cap : Nat} {x : DataW H × List MemPlace}

theorem entries_in_le (h : DataW.trod enc Tryz.prog w base spare held fuel 45 [.slice a len cap] = some x) : len ≤ maxLen := by
  rcases Deep.open_slice Tryz.underlying45 h with ⟨hcs, _⟩ | ⟨ad, l, c, m, n, D, Pl, hcs, _, hl, hm, _⟩
  · simp at hcs; omega
  · simp at hcs; omega
theorem texts_in_le (h : DataW.trod enc Tryz.prog w base spare held fuel 46 [.slice a len cap] = some x) : len ≤ maxLen := by
  rcases Deep.open_slice Tryz.underlying46 h with ⟨hcs, _⟩ | ⟨ad, l, c, m, n, D, Pl, hcs, _, hl, hm, _⟩
  · simp at hcs; omega
  · simp at hcs; omega
theorem entries_in (h : DataW.trod enc Tryz.prog w base spare held fuel 45 [.slice a len cap] = some x) : ∃ l : List EX, EsIn w w.heap.size l a len := by
  have hC : Tryz.prog.cellsOf 32 = 18 := by kernel_rfl
  rcases Deep.open_slice Tryz.underlying45 h with ⟨hcs, _⟩ | ⟨ad, l, c, m, n, D, Pl, hcs, _, hlc, hcm, hm, _, hi⟩
  · simp at hcs
    obtain ⟨rfl, rfl, rfl⟩ := hcs
    exact ⟨[], rfl, Seen.nil _ _ _, fun e he => by cases he⟩
  · simp at hcs
    obtain ⟨rfl, rfl, rfl⟩ := hcs
    have one : ∀ i, i < len → ∃ y : EX, ∃ b off, ad = ⟨b, off, none⟩ ∧ b < w.heap.size ∧ y.In w w.heap.size ∧ w.rangeAt b (off + i * 18) (ecell y) := by
      intro i hil
      obtain ⟨cs', hc, ht⟩ := hi i (by rw [hm]; split <;> omega)
      rw [hC] at hc
      obtain ⟨_, hl, hat⟩ := World.cells?_some hc
      obtain ⟨y, A, D, n, c, m, d, hl', hp⟩ := entry_cells_in hl ht
      obtain ⟨i0, hi0⟩ : ∃ i0 : Nat, i0 = 0 := ⟨0, rfl⟩
      obtain ⟨cs0, hc0, _⟩ := hi i0 (by rw [hm]; split <;> omega)
      rw [hC] at hc0
      obtain ⟨_, hl0, hat0⟩ := World.cells?_some hc0
      obtain ⟨z, hz⟩ := in_some cs0 0 18 hl0 (by omega)
      subst hi0
      obtain ⟨b, off, rfl, hb⟩ := in_spot3 ((hat0 0 (by omega)).trans hz)
      refine ⟨⟨y, A, n, c, D, m, d⟩, b, off, rfl, hb, hp, fun j v hj => ?_⟩
      have hlt : j < 18 := by rw [← ecell_length ⟨y, A, n, c, D, m, d⟩]; exact (List.getElem?_eq_some_iff.1 hj).1
      have hk := hat j hlt
      simp only [plain_add] at hk
      rw [hk, hl']
      exact hj
    obtain ⟨ws, hlen, hws⟩ := in_choose len one
    refine ⟨ws, hlen, fun hne => ?_, fun e he => ?_⟩
    · obtain ⟨y, hy⟩ := in_some ws 0 ws.length rfl (by
        rcases ws with _ | ⟨y, r⟩
        · exact absurd rfl hne
        · simp)
      obtain ⟨b, off, rfl, hb, _⟩ := hws 0 y hy
      refine ⟨b, off, rfl, hb, flat_all ecell 18 (by omega) ecell_length (p := fun i u => w.cell? ⟨b, off + i, none⟩ = some u) fun k g j u hg hj hu => ?_⟩
      obtain ⟨b', off', he, _, _, hr⟩ := hws k g hg
      simp only [Addr.mk.injEq, and_true] at he
      obtain ⟨rfl, rfl⟩ := he
      rw [← Nat.add_assoc]
      exact hr j u hu
    · obtain ⟨k, hk⟩ := List.getElem?_of_mem he
      obtain ⟨_, _, _, _, hin, _⟩ := hws k e hk
      exact hin
theorem texts_in (h : DataW.trod enc Tryz.prog w base spare held fuel 46 [.slice a len cap] = some x) :
    ∃ ls : List ByteArray, ls.length = len ∧ Seen w w.heap.size a (tcells ls) ∧ ∀ s ∈ ls, s.size ≤ maxLen := by
  have hC : Tryz.prog.cellsOf 9 = 1 := by kernel_rfl
  rcases Deep.open_slice1 Tryz.underlying46 hC h with ⟨hcs, _⟩ | ⟨ad, l, c, m, n, V, D, Pl, hcs, _, hl, hc, hm, _, hi⟩
  · simp at hcs
    obtain ⟨rfl, rfl, rfl⟩ := hcs
    exact ⟨[], rfl, Seen.nil _ _ _, by simp⟩
  · simp at hcs
    obtain ⟨rfl, rfl, rfl⟩ := hcs
    have hq : ∀ i, ∃ q : ByteArray, i < len → w.cell? (ad.add i) = some (.string q) ∧ q.size ≤ maxLen := fun i => by
      by_cases hil : i < len
      · obtain ⟨h1, h2⟩ := hi i (by rw [hm]; split <;> omega)
        obtain ⟨q, e2, _, hq⟩ := DataW.trod_string Tryz.underlying9 h2
        simp only [List.cons.injEq, and_true] at e2
        exact ⟨q, fun _ => ⟨by rw [h1, e2], hq⟩⟩
      · exact ⟨ByteArray.empty, fun h => absurd h hil⟩
    obtain ⟨f, hf⟩ := Classical.axiomOfChoice hq
    refine ⟨(List.range len).map f, by simp, fun hx => ?_, fun s hs => ?_⟩
    · have h0 : 0 < len := by
        rcases Nat.eq_zero_or_pos len with rfl | h0
        · exact absurd (by simp [tcells]) hx
        · exact h0
      obtain ⟨b, off, spot⟩ := ad
      have hc0 := (hf 0 h0).1
      have hspot : spot = none := by simpa [Addr.add] using World.cell?_spot hc0
      subst hspot
      refine ⟨b, off, rfl, by have := World.block_lt_of_cell? w _ hc0; rwa [plain_add] at this, fun j u hu => ?_⟩
      rcases Nat.lt_or_ge j len with hj | hj
      · have hcj := (hf j hj).1
        rw [plain_add] at hcj
        rw [hcj]
        simp [tcells, hj] at hu
        rw [hu]
      · rw [List.getElem?_eq_none (by simp [tcells]; omega)] at hu
        cases hu
    · simp only [List.mem_map, List.mem_range] at hs
      obtain ⟨i, hi, rfl⟩ := hs
      exact (hf i hi).2
end
end Go.Proofs.YtchpemgamgcbkaaGreat
