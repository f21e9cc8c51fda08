/-
  More on files in plain words (no program): what put leaves small, the files of a valid disk. No conditions.
-/
import Derived.Test.YtbglpmjfajmkdaaDoorDskPlain
namespace Go.Proofs.YtbglpmjfajmkdaaDoor.DP

theorem opt_length (f : Fl) : (opt f).length ≤ 1 := by unfold opt; split <;> simp
theorem put_mem {fs : List Fl} {f x : Fl} (h : x ∈ put fs f) : x ∈ fs ∨ x = f := by
  unfold put opt at h
  rcases List.mem_append.1 h with h | h
  · exact .inl (List.mem_filter.1 h).1
  · rcases List.mem_append.1 h with h | h
    · split at h
      · cases h
      · exact .inr (by simpa using h)
    · exact .inl (List.mem_filter.1 h).1
theorem filter_two (fs : List Fl) (n : ByteArray) : (fs.filter (fun x => ltS x.n n)).length + (fs.filter (fun x => ltS n x.n)).length ≤ fs.length := by
  induction fs with
  | nil => simp
  | cons x r ih =>
    cases h1 : ltS x.n n
    · rw [List.filter_cons_of_neg (by simp [h1])]
      cases h2 : ltS n x.n
      · rw [List.filter_cons_of_neg (by simp [h2])]; simp; omega
      · rw [List.filter_cons_of_pos (by simpa using h2)]; simp; omega
    · rw [List.filter_cons_of_pos (by simpa using h1), List.filter_cons_of_neg (by simp [ltS_asymm h1])]; simp; omega
theorem put_length (fs : List Fl) (f : Fl) : (put fs f).length ≤ fs.length + 1 := by
  have h1 := filter_two fs f.n
  have h2 := opt_length f
  unfold put
  rw [List.length_append, List.length_append]
  omega
theorem put_small {fs : List Fl} {f : Fl} (h : Small fs) (hl : fs.length ≤ 99) (hb : f.b.size ≤ 400000) (hn : f.n.size ≤ 100) : Small (put fs f) :=
  ⟨by have := put_length fs f; omega, fun x hx => by
    rcases put_mem hx with hx | rfl
    · exact h.2 x hx
    · exact ⟨hb, hn⟩⟩
end Go.Proofs.YtbglpmjfajmkdaaDoor.DP
