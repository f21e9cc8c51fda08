/-
  What the reference's 'with', 'Check' and 'Get' make of a list of files, turn by turn, in plain words (no program). No conditions.
-/
import Derived.Test.YtbglpmjfajmkdaaDoorDskPlainB
namespace Go.Proofs.YtbglpmjfajmkdaaDoor.DP

/-- One turn of the reference's with: what is out so far, and whether the file has had its place. -/
def wstep (f : Fl) (s : List Fl × Bool) (x : Fl) : List Fl × Bool :=
  ((if !ltS x.n f.n && !s.2 then s.1 ++ opt f else s.1) ++ (if eqS x.n f.n then [] else [x]), s.2 || !ltS x.n f.n)
def wfold (f : Fl) (fs : List Fl) : List Fl × Bool := fs.foldl (wstep f) ([], false)
theorem wfold_step {f : Fl} {fs : List Fl} {k : Nat} {x : Fl} (h : fs[k]? = some x) : wfold f (fs.take (k + 1)) = wstep f (wfold f (fs.take k)) x := by
  obtain ⟨hk, hf⟩ := List.getElem?_eq_some_iff.1 h
  unfold wfold
  rw [List.take_succ_eq_append_getElem hk, List.foldl_append, hf]
  rfl
theorem wfold_done (f : Fl) (o : List Fl) (r : List Fl) (h : ∀ x ∈ r, ltS f.n x.n = true) : r.foldl (wstep f) (o, true) = (o ++ r, true) := by
  induction r generalizing o with
  | nil => simp
  | cons x r ih =>
    have hx := h x (List.mem_cons_self ..)
    have e : wstep f (o, true) x = (o ++ [x], true) := by
      have hne : eqS x.n f.n = false := eqS_not.2 fun e => ltS_ne hx e.symm
      unfold wstep
      simp [hne]
    rw [List.foldl_cons, e, ih _ fun y hy => h y (List.mem_cons_of_mem _ hy)]
    simp
theorem wfold_gen (f : Fl) (o : List Fl) (r : List Fl) (h : r.Pairwise (fun a b => ltS a.n b.n = true)) :
    r.foldl (wstep f) (o, false) = (o ++ (r.filter (fun x => ltS x.n f.n) ++ ((if r.any (fun x => !ltS x.n f.n) then opt f else []) ++ r.filter (fun x => ltS f.n x.n))), r.any (fun x => !ltS x.n f.n)) := by
  induction r generalizing o with
  | nil => simp
  | cons x r ih =>
    rw [List.pairwise_cons] at h
    rw [List.foldl_cons]
    cases hx : ltS x.n f.n
    · have hgt : ∀ y ∈ r, ltS f.n y.n = true := by
        intro y hy
        by_cases he : x.n = f.n
        · rw [← he]; exact h.1 y hy
        · rcases ltS_total he with h1 | h1
          · rw [hx] at h1; cases h1
          · exact ltS_trans h1 (h.1 y hy)
      have f1 : r.filter (fun x => ltS x.n f.n) = [] := by
        rw [List.filter_eq_nil_iff]
        intro y hy hn
        rw [ltS_asymm (hgt y hy)] at hn; cases hn
      have f2 : r.filter (fun x => ltS f.n x.n) = r := by
        rw [List.filter_eq_self]
        exact hgt
      have e : wstep f (o, false) x = ((o ++ opt f) ++ (if eqS x.n f.n then [] else [x]), true) := by
        unfold wstep
        simp [hx]
      rw [e, wfold_done f _ r hgt, List.filter_cons_of_neg (by simp [hx]), f1, List.any_cons, hx]
      cases he : eqS x.n f.n
      · have h1 : ltS f.n x.n = true := by
          rcases ltS_total (eqS_not.1 he) with h1 | h1
          · rw [hx] at h1; cases h1
          · exact h1
        rw [List.filter_cons_of_pos (by simpa using h1), f2]
        simp
      · have h1 : ltS f.n x.n = false := by rw [eqS_iff.1 he]; exact ltS_irrefl _
        rw [List.filter_cons_of_neg (by simp [h1]), f2]
        simp
    · have hne : eqS x.n f.n = false := eqS_not.2 (ltS_ne hx)
      have e : wstep f (o, false) x = (o ++ [x], false) := by
        unfold wstep
        simp [hx, hne]
      rw [e, ih _ h.2, List.filter_cons_of_pos (by simpa using hx), List.filter_cons_of_neg (by simp [ltS_asymm hx]), List.any_cons, hx]
      simp
/-- The reference's with, whole: at files in order it is put. -/
theorem wfold_put {f : Fl} {fs : List Fl} (h : fs.Pairwise (fun a b => ltS a.n b.n = true)) :
    (if (wfold f fs).2 then (wfold f fs).1 else (wfold f fs).1 ++ opt f) = put fs f := by
  unfold wfold
  rw [wfold_gen f [] fs h]
  simp only [List.nil_append]
  cases ha : fs.any (fun x => !ltS x.n f.n)
  · have f2 : fs.filter (fun x => ltS f.n x.n) = [] := by
      rw [List.filter_eq_nil_iff]
      intro y hy hn
      have := List.any_eq_false.1 ha y hy
      rw [ltS_asymm hn] at this
      simp at this
    unfold put
    rw [f2]
    simp
  · unfold put
    simp
theorem wfold_length (f : Fl) (fs : List Fl) (k : Nat) : (wfold f (fs.take k)).1.length ≤ 2 * k := by
  induction k with
  | zero => simp [wfold]
  | succ k ih =>
    by_cases hk : k < fs.length
    · rw [wfold_step (List.getElem?_eq_getElem hk)]
      have h1 := opt_length f
      generalize wfold f (fs.take k) = s at *
      obtain ⟨o, d⟩ := s
      simp only at ih
      have h2 : (if eqS fs[k].n f.n then ([] : List Fl) else [fs[k]]).length ≤ 1 := by split <;> simp
      have h3 : (if !ltS fs[k].n f.n && !d then o ++ opt f else o).length ≤ o.length + 1 := by
        split
        · rw [List.length_append]; omega
        · omega
      unfold wstep
      simp only [List.length_append]
      omega
    · rw [List.take_of_length_le (by omega)]
      rw [List.take_of_length_le (by omega)] at ih
      omega

/-- Check with the file ahead at hand: the first place has none. -/
theorem rises_at (fs : List Fl) (k : Nat) : rises none_ fs = true → ∀ f, fs[k]? = some f → okFl f = true ∧ ∀ g, 0 < k → fs[k - 1]? = some g → ltS g.n f.n = true := by
  intro h f hf
  obtain ⟨h1, h2⟩ := rises_sorted.1 h
  refine ⟨h2 f (List.mem_of_getElem? hf), fun g hk hg => ?_⟩
  obtain ⟨a, ha⟩ := List.getElem?_eq_some_iff.1 hf
  obtain ⟨b, hb⟩ := List.getElem?_eq_some_iff.1 hg
  have := List.pairwise_iff_getElem.1 h1 (k - 1) k b a (by omega)
  rw [ha, hb] at this
  exact this
/-- So far each file is valid and behind the one ahead. -/
def upTo (fs : List Fl) (k : Nat) : Prop := ∀ i f, i < k → fs[i]? = some f → okFl f = true ∧ ∀ g, 0 < i → fs[i - 1]? = some g → ltS g.n f.n = true
theorem upTo_next {fs : List Fl} {k : Nat} {f : Fl} (h : upTo fs k) (hf : fs[k]? = some f) (ho : okFl f = true) (hg : ∀ g, 0 < k → fs[k - 1]? = some g → ltS g.n f.n = true) : upTo fs (k + 1) := by
  intro i x hi hx
  by_cases hik : i < k
  · exact h i x hik hx
  · obtain rfl : i = k := by omega
    rw [hf] at hx
    injection hx with hx
    subst hx
    exact ⟨ho, hg⟩
theorem pw_of_next : ∀ (fs : List Fl), (∀ i (h : i + 1 < fs.length), ltS (fs[i]'(by omega)).n fs[i + 1].n = true) → fs.Pairwise (fun a b => ltS a.n b.n = true)
  | [], _ => List.Pairwise.nil
  | [x], _ => List.pairwise_singleton _ _
  | x :: y :: r, h => by
    have ih := pw_of_next (y :: r) (fun i hi => by
      have := h (i + 1) (by simpa using hi)
      simpa using this)
    have h0 : ltS x.n y.n = true := h 0 (by simp)
    refine List.Pairwise.cons (fun z hz => ?_) ih
    rcases List.mem_cons.1 hz with rfl | hz
    · exact h0
    · exact ltS_trans h0 ((List.pairwise_cons.1 ih).1 z hz)
theorem upTo_all {fs : List Fl} (h : upTo fs fs.length) : rises none_ fs = true := by
  refine rises_sorted.2 ⟨pw_of_next fs fun i hi => ?_, fun f hf => ?_⟩
  · have := (h (i + 1) fs[i + 1] hi (List.getElem?_eq_getElem hi)).2 fs[i] (by omega) (by rw [Nat.add_sub_cancel]; exact List.getElem?_eq_getElem (by omega))
    exact this
  · obtain ⟨i, hi⟩ := List.mem_iff_getElem?.1 hf
    exact (h i f (List.getElem?_eq_some_iff.1 hi).1 hi).1

theorem sameF_self (f : Fl) : sameF f f = true := by
  unfold sameF
  rw [eqS_self, eqS_self]
  simp
theorem sameFs_self (fs : List Fl) : sameFs fs fs = true := by
  induction fs with
  | nil => rfl
  | cons x r ih => unfold sameFs; rw [sameF_self, ih]; rfl
theorem same_self_ (d : Dk) : same d d = true := by
  unfold same
  rw [sameFs_self]
  simp
theorem sameFs_length {a b : List Fl} (h : sameFs a b = true) : a.length = b.length := by
  induction a generalizing b with
  | nil => cases b with
    | nil => rfl
    | cons y t => cases h
  | cons x r ih => cases b with
    | nil => cases h
    | cons y t =>
      unfold sameFs at h
      rw [Bool.and_eq_true] at h
      simp [ih h.2]
theorem sameFs_step {a b : List Fl} {k : Nat} {f g : Fl} (h1 : a[k]? = some f) (h2 : b[k]? = some g) : sameFs (a.drop k) (b.drop k) = (sameF f g && sameFs (a.drop (k + 1)) (b.drop (k + 1))) := by
  obtain ⟨x1, e1⟩ := List.getElem?_eq_some_iff.1 h1
  obtain ⟨x2, e2⟩ := List.getElem?_eq_some_iff.1 h2
  rw [List.drop_eq_getElem_cons x1, List.drop_eq_getElem_cons x2, e1, e2]
  rfl
theorem sameFs_end {a b : List Fl} {k : Nat} (h1 : a.length ≤ k) (h2 : b.length ≤ k) : sameFs (a.drop k) (b.drop k) = true := by
  rw [List.drop_of_length_le h1, List.drop_of_length_le h2]; rfl
theorem sameFs_other {a b : List Fl} (h : a.length ≠ b.length) : sameFs a b = false := by
  cases hs : sameFs a b
  · rfl
  · exact absurd (sameFs_length hs) h
end Go.Proofs.YtbglpmjfajmkdaaDoor.DP
