/-
  What the laws reckon of rows of loads: lengths, each counted as 7000 at most. No conditions.
-/
import Derived.Test.YtcfdfpihmmaalaaFrmPlain
namespace Go.Proofs.Ytcfdfpihmmaalaa.FP

def cap7 : List (List UInt8) → Nat
  | [] => 0
  | x :: r => min x.length 7000 + cap7 r
theorem cap7_append (a b : List (List UInt8)) : cap7 (a ++ b) = cap7 a + cap7 b := by
  induction a with
  | nil => simp [cap7]
  | cons x a ih => simp only [List.cons_append, cap7, ih]; omega
theorem cap7_snoc {ls : List (List UInt8)} {k : Nat} (h : k < ls.length) : cap7 (ls.take (k + 1)) = cap7 (ls.take k) + min ls[k].length 7000 := by
  rw [List.take_succ_eq_append_getElem h, cap7_append, cap7, cap7]
  omega
theorem cap7_le (ls : List (List UInt8)) : cap7 ls ≤ 7000 * ls.length := by
  induction ls with
  | nil => simp [cap7]
  | cons x ls ih => simp only [cap7, List.length_cons]; omega
theorem cap7_take (ls : List (List UInt8)) (k : Nat) : cap7 (ls.take k) ≤ 7000 * k := by
  have h := cap7_le (ls.take k)
  have : (ls.take k).length ≤ k := List.length_take_le _ _
  omega
theorem cap7_small {ls : List (List UInt8)} (h : cap7 ls ≤ 6000) : (∀ x ∈ ls, x.length ≤ 6000) ∧ sum ls ≤ cap7 ls + 4 * ls.length := by
  induction ls with
  | nil => simp [cap7, sum]
  | cons x ls ih =>
    simp only [cap7] at h
    obtain ⟨h1, h2⟩ := ih (by omega)
    refine ⟨fun y hy => ?_, ?_⟩
    · rcases List.mem_cons.1 hy with rfl | hy
      · omega
      · exact h1 y hy
    · simp only [sum, cap7, List.length_cons]
      omega
theorem take_all {a : List (List UInt8)} {k : Nat} (h : ∀ x ∈ a.take k, x.length ≤ 1024) (hk : k < a.length) (hx : a[k].length ≤ 1024) : ∀ x ∈ a.take (k + 1), x.length ≤ 1024 := by
  intro x hx'
  rw [List.take_succ_eq_append_getElem hk, List.mem_append] at hx'
  rcases hx' with h1 | h1
  · exact h x h1
  · simp at h1; rw [h1]; exact hx
theorem flat_take {a : List (List UInt8)} {k : Nat} (hk : k < a.length) : flat (a.take (k + 1)) = flat (a.take k) ++ enc a[k] := by
  rw [List.take_succ_eq_append_getElem hk, flat_snoc]
end Go.Proofs.Ytcfdfpihmmaalaa.FP
