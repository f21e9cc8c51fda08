/-
  What an operation makes of a valid disk, in plain words (no program): a valid disk; what is left of the operations. No conditions.
-/
import Derived.Test.YtbglpmjfajmkdaaDoorDskLawPlain
namespace Go.Proofs.YtbglpmjfajmkdaaDoor.DP

theorem put_sorted {fs : List Fl} {f : Fl} (h : Sorted fs) (hf : f.b.size = 0 ∨ okFl f = true) : Sorted (put fs f) := by
  obtain ⟨hp, hok⟩ := h
  have h1 : (fs.filter (fun x => ltS x.n f.n)).Pairwise (fun a b => ltS a.n b.n = true) := hp.filter _
  have h2 : (fs.filter (fun x => ltS f.n x.n)).Pairwise (fun a b => ltS a.n b.n = true) := hp.filter _
  have k1 : ∀ x ∈ fs.filter (fun x => ltS x.n f.n), ltS x.n f.n = true := fun x hx => (List.mem_filter.1 hx).2
  have k2 : ∀ x ∈ fs.filter (fun x => ltS f.n x.n), ltS f.n x.n = true := fun x hx => (List.mem_filter.1 hx).2
  refine ⟨?_, fun x hx => ?_⟩
  · unfold put
    rw [List.pairwise_append]
    refine ⟨h1, ?_, fun a ha b hb => ?_⟩
    · unfold opt
      split
      · simpa using h2
      · rw [List.singleton_append, List.pairwise_cons]
        exact ⟨k2, h2⟩
    · rw [List.mem_append] at hb
      rcases hb with hb | hb
      · unfold opt at hb
        split at hb
        · cases hb
        · rw [List.mem_singleton] at hb
          subst hb
          exact k1 a ha
      · exact ltS_trans (k1 a ha) (k2 b hb)
  · unfold put at hx
    rw [List.mem_append, List.mem_append] at hx
    rcases hx with hx | hx | hx
    · exact hok x (List.mem_filter.1 hx).1
    · unfold opt at hx
      split at hx
      · cases hx
      · rename_i hne
        rw [List.mem_singleton] at hx
        subst hx
        exact hf.resolve_left hne
    · exact hok x (List.mem_filter.1 hx).1

theorem changed_ok {f : Fl} {w : Wr} (hop : isOp w = true) (hn : f.n = w.file) (hs0 : 0 ≤ f.s) (hs1 : f.s ≤ f.b.size) (hb : 0 < f.b.size ∨ 0 < w.b.size) (hk : w.n ≤ f.b.size) : (changed f w).b.size = 0 ∨ okFl (changed f w) = true := by
  unfold isOp at hop
  rw [Bool.and_eq_true, Bool.and_eq_true, decide_eq_true_eq] at hop
  obtain ⟨⟨hname, hn0⟩, hop⟩ := hop
  have hname' : okName f.n = true := by rw [hn]; exact hname
  unfold changed
  by_cases h0 : w.op = 0
  · rw [if_pos (.inl h0), decide_eq_true_eq] at hop
    rw [if_pos h0]
    right
    exact okFl_mk hname' (by show 0 < (f.b ++ w.b).size; rw [ByteArray.size_append]; omega) hs0 (by show f.s ≤ ((f.b ++ w.b).size : Int); rw [ByteArray.size_append]; omega)
  by_cases h2 : w.op = 2
  · rw [if_pos (.inr h2), decide_eq_true_eq] at hop
    rw [if_neg h0, if_neg (by omega), if_pos h2]
    right
    exact okFl_mk hname' hop.1 (by show (0 : Int) ≤ (w.b.size : Int); omega) (Int.le_refl _)
  rw [if_neg (by omega)] at hop
  by_cases h1 : w.op = 1
  · rw [if_pos (.inl h1), decide_eq_true_eq] at hop
    rw [if_neg h0, if_pos h1]
    right
    exact okFl_mk hname' (by show 0 < f.b.size; omega) (by show (0 : Int) ≤ (f.b.size : Int); omega) (Int.le_refl _)
  by_cases h3 : w.op = 3
  · rw [if_neg h0, if_neg h1, if_neg h2, if_pos h3]
    have hsz : (f.b.extract 0 w.n.toNat).size = w.n.toNat := by rw [ByteArray.size_extract]; omega
    by_cases hz : w.n = 0
    · left
      show (f.b.extract 0 w.n.toNat).size = 0
      rw [hsz]; omega
    · right
      exact okFl_mk hname' (by show 0 < (f.b.extract 0 w.n.toNat).size; rw [hsz]; omega) hn0 (by show w.n ≤ ((f.b.extract 0 w.n.toNat).size : Int); rw [hsz]; omega)
  · rw [if_neg h0, if_neg h1, if_neg h2, if_neg h3]
    left
    rfl

theorem done_ok {d : Dk} {w : Wr} (hc : check d = true) (hop : isOp w = true) :
    (∃ r, (r = 32 ∨ r = 2 ∨ r = 3 ∨ r = 31) ∧ done d w = (noDisk, r)) ∨ (∃ fs, done d w = ({ d with fs := fs, left := if 0 < d.left then d.left - 1 else d.left }, 0) ∧ fs.length ≤ 64 ∧ (used fs : Int) ≤ d.cap ∧ Sorted fs) := by
  unfold done
  by_cases h1 : get d.fs w.file = none ∧ w.b.size = 0
  · rw [if_pos h1]; exact .inl ⟨32, by simp, rfl⟩
  rw [if_neg h1]
  simp only
  obtain ⟨f, hf⟩ : ∃ f : Fl, f = { ((get d.fs w.file).getD noFile) with n := w.file } := ⟨_, rfl⟩
  rw [← hf]
  have hfb : ((get d.fs w.file).getD noFile).b = f.b := by rw [hf]
  rw [hfb]
  by_cases h2 : (f.b.size : Int) < w.n
  · rw [if_pos h2]; exact .inl ⟨2, by simp, rfl⟩
  rw [if_neg h2]
  by_cases h3 : 64 < (put d.fs (changed f w)).length
  · rw [if_pos h3]; exact .inl ⟨3, by simp, rfl⟩
  rw [if_neg h3]
  by_cases h4 : d.cap < (used (put d.fs (changed f w)) : Int)
  · rw [if_pos h4]; exact .inl ⟨31, by simp, rfl⟩
  rw [if_neg h4]
  have hs := check_sorted hc
  refine .inr ⟨_, rfl, by omega, by omega, put_sorted hs ?_⟩
  cases hg : get d.fs w.file with
  | none =>
    rw [hg] at hf h1
    have hb : 0 < w.b.size := by
      rcases Nat.eq_zero_or_pos w.b.size with h | h
      · exact absurd ⟨rfl, h⟩ h1
      · exact h
    subst hf
    exact changed_ok hop rfl (by show (0 : Int) ≤ 0; omega) (by show (0 : Int) ≤ _; omega) (.inr hb) (by omega)
  | some g =>
    rw [hg] at hf
    have hgm := List.mem_of_find?_eq_some hg
    obtain ⟨_, p1, p2, p3⟩ := okFl_parts (hs.2 _ hgm)
    subst hf
    exact changed_ok hop rfl p2 p3 (.inl p1) (by omega)

/-- One operation on a valid disk that goes down after so many operations. -/
theorem left_step {d d' : Dk} {w : Wr} {r : Int} (hc : check d = true) (hl : 0 ≤ d.left) (hd : does d w = (d', r)) :
    (r ≠ 30 ∧ r ≠ 0) ∨ (r = 30 ∧ d.down = true ∧ d'.down = false) ∨ (r = 30 ∧ d.down = false ∧ d.left = 0 ∧ d' = { d with down := true } ∧ check d' = true) ∨ (r = 0 ∧ d.down = false ∧ 0 < d.left ∧ d'.left = d.left - 1 ∧ d'.down = false ∧ check d' = true) := by
  unfold does at hd
  by_cases h1 : check d = false ∨ isOp w = false
  · rw [if_pos h1] at hd
    injection hd with _ h2
    subst h2
    exact .inl (by omega)
  rw [if_neg h1] at hd
  have hop : isOp w = true := by
    cases h : isOp w
    · exact absurd (.inr h) h1
    · rfl
  by_cases h2 : d.down = true
  · rw [if_pos h2] at hd
    injection hd with e1 e2
    subst e1 e2
    exact .inr (.inl ⟨rfl, h2, rfl⟩)
  rw [if_neg h2] at hd
  have hdn : d.down = false := by simpa using h2
  by_cases h3 : d.left = 0
  · rw [if_pos h3] at hd
    injection hd with e1 e2
    subst e1 e2
    refine .inr (.inr (.inl ⟨rfl, hdn, h3, rfl, ?_⟩))
    obtain ⟨p1, p2, p3, p4, p5⟩ := check_parts hc
    exact check_mk p1 p2 p3 p4 p5
  rw [if_neg h3] at hd
  rcases done_ok hc hop with ⟨r', hr, hx⟩ | ⟨fs, hx, q1, q2, q3⟩
  · rw [hx] at hd
    injection hd with e1 e2
    subst e2
    exact .inl (by omega)
  · rw [hx] at hd
    injection hd with e1 e2
    subst e1 e2
    obtain ⟨p1, p2, p3, p4, p5⟩ := check_parts hc
    refine .inr (.inr (.inr ⟨rfl, hdn, by omega, ?_, hdn, check_mk q1 p2 p3 q2 (rises_sorted.2 q3)⟩))
    show (if 0 < d.left then d.left - 1 else d.left) = _
    rw [if_pos (by omega)]
end Go.Proofs.YtbglpmjfajmkdaaDoor.DP
