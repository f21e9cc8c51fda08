/-
  Slices of strings that came in, opened to their cells. No conditions.
-/
import Derived.Test.YtcfdfpihmmaalaaFrmMem
import Derived.Deep.Slices
import Derived.ChangeArms
import Derived.SizedLaws
namespace Go.Proofs.Ytcfdfpihmmaalaa
open Go.RowKit

section
variable {H : Type} {enc : TypeId × Value → H} {w : World} {base : Nat} {spare : Nat → Bool} {held : Bool} {fuel : Nat} {a : Option Addr} {len cap : Nat}

theorem strs_in {x : DataW H × List MemPlace} (h : DataW.trod enc Try.prog w base spare held fuel 28 [.slice a len cap] = some x) :
    ∃ ls : List (List UInt8), len = ls.length ∧ Seen w w.heap.size a (strs ls) ∧ (∀ l ∈ ls, l.length ≤ maxLen) ∧ len ≤ cap ∧ cap ≤ maxLen := by
  have hC : Try.prog.cellsOf 9 = 1 := by kernel_rfl
  rcases Deep.open_slice1 Try.underlying28 hC h with ⟨hcs, _⟩ | ⟨ad, l, c, m, n, V, D, Pl, hcs, _, hl, hc, hm, _, hi⟩
  · simp at hcs
    obtain ⟨rfl, rfl, rfl⟩ := hcs
    exact ⟨[], rfl, Seen.nil _ _ _, by simp, Nat.le_refl _, Nat.zero_le _⟩
  · simp at hcs
    obtain ⟨rfl, rfl, rfl⟩ := hcs
    have hq : ∀ i, ∃ q : ByteArray, i < len → w.cell? (ad.add i) = some (.string q) ∧ q.size ≤ maxLen := fun i => by
      by_cases hil : i < len
      · obtain ⟨h1, h2⟩ := hi i (by rw [hm]; split <;> omega)
        obtain ⟨q, e2, _, hq⟩ := DataW.trod_string Try.underlying9 h2
        simp only [List.cons.injEq, and_true] at e2
        exact ⟨q, fun _ => ⟨by rw [h1, e2], hq⟩⟩
      · exact ⟨ByteArray.empty, fun h => absurd h hil⟩
    obtain ⟨f, hf⟩ := Classical.axiomOfChoice hq
    refine ⟨(List.range len).map fun i => bytesOf (f i), by simp, fun hx => ?_, fun l hl => ?_, hl, hc⟩
    · have h0 : 0 < len := by
        rcases Nat.eq_zero_or_pos len with rfl | h0
        · exact absurd (by simp [strs]) hx
        · exact h0
      obtain ⟨b, off, spot⟩ := ad
      have hc0 := (hf 0 h0).1
      have hspot : spot = none := by simpa [Addr.add] using World.cell?_spot hc0
      subst hspot
      refine ⟨b, off, rfl, by have := World.block_lt_of_cell? w _ hc0; rwa [plain_add] at this, fun j u hu => ?_⟩
      rcases Nat.lt_or_ge j len with hj | hj
      · have hcj := (hf j hj).1
        rw [plain_add] at hcj
        rw [hcj]
        simp [strs, hj, str_bytesOf] at hu
        rw [hu]
      · rw [List.getElem?_eq_none (by simp [strs]; omega)] at hu
        cases hu
    · simp only [List.mem_map, List.mem_range] at hl
      obtain ⟨i, hi, rfl⟩ := hl
      rw [bytesOf_length]
      exact (hf i hi).2

theorem strs_reach {d : DataW H} {p : List MemPlace} (h : DataW.trod enc Try.prog w base spare held fuel 28 [.slice a len cap] = some (d, p)) {ts : List TypeId} {ds : List (DataW H)} {j : Nat}
    (hsz : (DataW.weightsEach Try.prog ts ds).all (· ≤ reachBytes) = true) (ht : ts[j]? = some 28) (hd : ds[j]? = some d) : len ≤ 140737488351232 := by
  have hC : Try.prog.cellsOf 9 = 1 := by kernel_rfl
  rcases Deep.open_slice1 Try.underlying28 hC h with ⟨hcs, _⟩ | ⟨ad, l, c, m, n, V, D, Pl, hcs, _, hl, hc, hm, hx, hi⟩
  · simp at hcs; omega
  · simp at hcs
    obtain ⟨rfl, rfl, rfl⟩ := hcs
    injection hx with hx1 _
    subst hx1
    have hh := sized_slice hsz ht hd Try.underlying28
    have hby : Try.prog.bytesOf 9 = 16 := by kernel_rfl
    have hv : reachBytes = 140737488351232 := rfl
    rw [hby] at hh
    simp at hh
    omega
end
end Go.Proofs.Ytcfdfpihmmaalaa
