/-
  Two files of different names put into a disk's files, in either order, in plain words (no program). No conditions.
-/
import Derived.Test.YtbglpmjfajmkdaaDoorDskLeftPlain
namespace Go.Proofs.YtbglpmjfajmkdaaDoor.DP

theorem opt_filter_same (f : Fl) (p : Fl → Bool) (h : p f = true) : (opt f).filter p = opt f := by
  unfold opt
  split
  · rfl
  · rw [List.filter_cons_of_pos h]; rfl
theorem opt_filter_none (f : Fl) (p : Fl → Bool) (h : p f = false) : (opt f).filter p = [] := by
  unfold opt
  split
  · rfl
  · rw [List.filter_cons_of_neg (by rw [h]; simp)]; rfl
/-- What lies below one name and above a smaller one. -/
theorem put_lt (fs : List Fl) (f g : Fl) (h : ltS f.n g.n = true) : put (put fs f) g = fs.filter (fun x => ltS x.n f.n) ++ (opt f ++ (fs.filter (fun x => ltS f.n x.n && ltS x.n g.n) ++ (opt g ++ fs.filter (fun x => ltS g.n x.n)))) := by
  have e1 : (fs.filter (fun x => ltS x.n f.n)).filter (fun x => ltS x.n g.n) = fs.filter (fun x => ltS x.n f.n) := by
    rw [List.filter_eq_self]
    intro x hx
    exact ltS_trans (List.mem_filter.1 hx).2 h
  have e2 : (fs.filter (fun x => ltS x.n f.n)).filter (fun x => ltS g.n x.n) = [] := by
    rw [List.filter_eq_nil_iff]
    intro x hx hn
    have := ltS_trans (List.mem_filter.1 hx).2 h
    rw [ltS_asymm this] at hn; cases hn
  have e3 : (fs.filter (fun x => ltS f.n x.n)).filter (fun x => ltS x.n g.n) = fs.filter (fun x => ltS f.n x.n && ltS x.n g.n) := by
    rw [List.filter_filter]
    congr 1
    funext x
    rw [Bool.and_comm]
  have e4 : (fs.filter (fun x => ltS f.n x.n)).filter (fun x => ltS g.n x.n) = fs.filter (fun x => ltS g.n x.n) := by
    rw [List.filter_filter]
    congr 1
    funext x
    cases hg : ltS g.n x.n
    · rfl
    · rw [ltS_trans h hg]; rfl
  unfold put
  rw [List.filter_append, List.filter_append, List.filter_append, List.filter_append, e1, e2, e3, e4, opt_filter_same f _ h, opt_filter_none f _ (ltS_asymm h)]
  simp only [List.append_assoc, List.nil_append]
theorem put_gt (fs : List Fl) (f g : Fl) (h : ltS f.n g.n = true) : put (put fs g) f = fs.filter (fun x => ltS x.n f.n) ++ (opt f ++ (fs.filter (fun x => ltS f.n x.n && ltS x.n g.n) ++ (opt g ++ fs.filter (fun x => ltS g.n x.n)))) := by
  have e1 : (fs.filter (fun x => ltS x.n g.n)).filter (fun x => ltS x.n f.n) = fs.filter (fun x => ltS x.n f.n) := by
    rw [List.filter_filter]
    congr 1
    funext x
    cases hf : ltS x.n f.n
    · rfl
    · rw [ltS_trans hf h]; rfl
  have e2 : (fs.filter (fun x => ltS x.n g.n)).filter (fun x => ltS f.n x.n) = fs.filter (fun x => ltS f.n x.n && ltS x.n g.n) := by
    rw [List.filter_filter]
  have e3 : (fs.filter (fun x => ltS g.n x.n)).filter (fun x => ltS x.n f.n) = [] := by
    rw [List.filter_eq_nil_iff]
    intro x hx hn
    have := ltS_trans h (List.mem_filter.1 hx).2
    rw [ltS_asymm this] at hn; cases hn
  have e4 : (fs.filter (fun x => ltS g.n x.n)).filter (fun x => ltS f.n x.n) = fs.filter (fun x => ltS g.n x.n) := by
    rw [List.filter_eq_self]
    intro x hx
    exact ltS_trans h (List.mem_filter.1 hx).2
  unfold put
  rw [List.filter_append, List.filter_append, List.filter_append, List.filter_append, e1, e2, e3, e4, opt_filter_same g (fun x => ltS f.n x.n) h, opt_filter_none g _ (ltS_asymm h)]
  simp only [List.append_assoc, List.nil_append]
theorem put_comm (fs : List Fl) (f g : Fl) (h : f.n ≠ g.n) : put (put fs f) g = put (put fs g) f := by
  rcases ltS_total h with h | h
  · rw [put_lt fs f g h, put_gt fs f g h]
  · rw [put_lt fs g f h, put_gt fs g f h]
theorem get_filter {fs : List Fl} {n : ByteArray} {p : Fl → Bool} (h : ∀ x, x.n = n → p x = true) : DP.get (fs.filter p) n = DP.get fs n := by
  unfold DP.get
  rw [List.find?_filter]
  congr 1
  funext x
  cases he : eqS x.n n
  · simp
  · simp [h x (eqS_iff.1 he)]
/-- Another file is not touched. -/
theorem get_put_other {fs : List Fl} {f : Fl} {n : ByteArray} (h : f.n ≠ n) : DP.get (put fs f) n = DP.get fs n := by
  have ho : DP.get (opt f) n = none := by
    unfold DP.get opt
    split
    · rfl
    · rw [List.find?_cons_of_neg (by rw [eqS_not.2 h]; simp)]; rfl
  have hn : ∀ (l : List Fl) (p : Fl → Bool), (∀ x, x.n = n → p x = false) → DP.get (l.filter p) n = none := by
    intro l p hp
    unfold DP.get
    rw [List.find?_eq_none]
    intro x hx he
    have := (List.mem_filter.1 hx).2
    rw [hp x (eqS_iff.1 he)] at this
    cases this
  have happ : ∀ a b : List Fl, DP.get (a ++ b) n = (DP.get a n).or (DP.get b n) := fun a b => by unfold DP.get; exact List.find?_append
  unfold put
  rw [happ, happ, ho, Option.none_or]
  rcases ltS_total h with h1 | h1
  · rw [hn fs (fun x => ltS x.n f.n) (fun x hx => by rw [hx]; exact ltS_asymm h1), Option.none_or]
    exact get_filter fun x hx => by rw [hx]; exact h1
  · rw [hn fs (fun x => ltS f.n x.n) (fun x hx => by rw [hx]; exact ltS_asymm h1), Option.or_none]
    exact get_filter fun x hx => by rw [hx]; exact h1
end Go.Proofs.YtbglpmjfajmkdaaDoor.DP
