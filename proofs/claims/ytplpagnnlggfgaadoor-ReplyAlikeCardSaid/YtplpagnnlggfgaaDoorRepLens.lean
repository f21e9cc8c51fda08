/-
  What a walk got past is no longer than a machine can hold: its rows are 64 at the most, its texts as long as the pass makes them. No conditions.
-/
import Derived.Test.YtplpagnnlggfgaaDoorRepHeld
namespace Go.Proofs.YtplpagnnlggfgaaDoor
open Go.RowKit

def Small64 (r : Rw) : Prop := r.k.size ≤ 9223372036854775807 ∧ r.v.size ≤ 9223372036854775807
section
variable {P : Pass}
theorem wrow_small (M : PIn P) (s : Ws P) (r : Rw) (h : Small64 r) : Small64 (wrow s r).1 := ⟨M.txt64 _ _ h.1, M.txt64 _ _ h.2⟩
theorem wloop_small (M : PIn P) : ∀ (l : List Rw) (s : Ws P), (∀ x ∈ l, Small64 x) → (wloop s l).1.length ≤ l.length ∧ ∀ y ∈ (wloop s l).1, Small64 y
  | [], s, _ => ⟨Nat.le_refl _, fun y hy => by simp [wloop] at hy⟩
  | r :: l, s, h => by
    have h1 := wrow_small M s r (h r (by simp))
    have h2 := wloop_small M l (wrow s r).2 (fun x hx => h x (by simp [hx]))
    unfold wloop
    split
    · refine ⟨by simp, fun y hy => ?_⟩
      simp only [List.mem_singleton] at hy
      rw [hy]
      exact h1
    · refine ⟨by simp only [List.length_cons]; omega, fun y hy => ?_⟩
      rcases List.mem_cons.1 hy with rfl | hy
      · exact h1
      · exact h2.2 y hy
theorem noRw_small : Small64 noRw := ⟨by simp [noRw, ByteArray.size], by simp [noRw, ByteArray.size]⟩
theorem wrows_small (M : PIn P) (s : Ws P) (fr : List Rw) (h : ∀ x ∈ fr, Small64 x) : (wrows s fr).1.length ≤ 64 ∧ ∀ y ∈ (wrows s fr).1, Small64 y := by
  have h3 := wnum_in (s := s) (n := fr.length) (lo := 0) (hi := 64) (by omega) (by omega) (by omega)
  have h2 := wloop_small M (pad (wnum s fr.length 0 64).1.toNat fr) (wnum s fr.length 0 64).2 (fun x hx => by
    unfold pad at hx
    rcases List.mem_append.1 (List.mem_of_mem_take hx) with hx | hx
    · exact h x hx
    · rw [List.eq_of_mem_replicate hx]
      exact noRw_small)
  rw [pad_length] at h2
  unfold wrows
  exact ⟨by omega, h2.2⟩
theorem wgos_nil (h : Nat → Bool) (fr : Rp) (x : Rp × Ws P) : ∀ k, k < 4 → (wgos h fr x k).1.rows = x.1.rows
  | 0, _ => rfl
  | k + 1, hk => ((wgo_low h fr k (wgos h fr x k) (by omega)).2.2.2.2.2.2 (by omega)).trans (wgos_nil h fr x k (by omega))
theorem wreply_small (M : PIn P) (s : Ws P) (fr : Rp) (h : ∀ x ∈ fr.rows, Small64 x) : (wreply s fr).1.rows.length ≤ 64 ∧ ∀ y ∈ (wreply s fr).1.rows, Small64 y := by
  have h3 := wgos_nil (hasF (whead s fr).1.kind (whead s fr).1.e) fr (whead s fr) 3 (by omega)
  have h0 : (whead s fr).1.rows = [] := rfl
  rw [h0] at h3
  show (wgo _ fr 3 (wgos _ fr _ 3)).1.rows.length ≤ 64 ∧ ∀ y ∈ (wgo _ fr 3 (wgos _ fr _ 3)).1.rows, Small64 y
  unfold wgo
  split
  · exact wrows_small M _ fr.rows h
  · rw [h3]
    exact ⟨by simp, fun y hy => by cases hy⟩
end
end Go.Proofs.YtplpagnnlggfgaaDoor
