/-
  What the laws of disks lean on, in plain words (no program): a file put into a valid disk's files. No conditions.
-/
import Derived.Test.YtbglpmjfajmkdaaDoorDskPlainB
namespace Go.Proofs.YtbglpmjfajmkdaaDoor.DP

theorem sorted_none {fs : List Fl} {n : ByteArray} (h : fs.Pairwise (fun a b => ltS a.n b.n = true)) (hg : DP.get fs n = none) : fs = fs.filter (fun x => ltS x.n n) ++ fs.filter (fun x => ltS n x.n) := by
  induction fs with
  | nil => rfl
  | cons x r ih =>
    rw [List.pairwise_cons] at h
    unfold DP.get at hg ih
    rw [List.find?_cons] at hg
    split at hg
    · cases hg
    · rename_i hx
      have hne : x.n ≠ n := fun e => by rw [e, eqS_self] at hx; cases hx
      rcases ltS_total hne with h1 | h1
      · rw [List.filter_cons_of_pos (by simpa using h1), List.filter_cons_of_neg (by simp [ltS_asymm h1]), List.cons_append, ← ih h.2 hg]
      · have hall : ∀ a ∈ r, ltS n a.n = true := fun a ha => ltS_trans h1 (h.1 a ha)
        rw [List.filter_cons_of_neg (by simp [ltS_asymm h1]), List.filter_cons_of_pos (by simpa using h1)]
        have e1 : r.filter (fun x => ltS x.n n) = [] := by
          rw [List.filter_eq_nil_iff]
          intro a ha hn
          rw [ltS_asymm (hall a ha)] at hn; cases hn
        have e2 : r.filter (fun x => ltS n x.n) = r := by
          rw [List.filter_eq_self]; exact hall
        rw [e1, e2]; rfl
theorem sorted_some {fs : List Fl} {n : ByteArray} {f : Fl} (h : fs.Pairwise (fun a b => ltS a.n b.n = true)) (hg : DP.get fs n = some f) : f.n = n ∧ fs = fs.filter (fun x => ltS x.n n) ++ f :: fs.filter (fun x => ltS n x.n) := by
  induction fs with
  | nil => cases hg
  | cons x r ih =>
    rw [List.pairwise_cons] at h
    unfold DP.get at hg ih
    rw [List.find?_cons] at hg
    split at hg
    · rename_i hx
      injection hg with hg
      subst hg
      have hxn := eqS_iff.1 hx
      refine ⟨hxn, ?_⟩
      have hall : ∀ a ∈ r, ltS n a.n = true := fun a ha => by rw [← hxn]; exact h.1 a ha
      rw [List.filter_cons_of_neg (by rw [hxn, ltS_irrefl]; simp), List.filter_cons_of_neg (by rw [hxn, ltS_irrefl]; simp)]
      have e1 : r.filter (fun x => ltS x.n n) = [] := by
        rw [List.filter_eq_nil_iff]
        intro a ha hn
        rw [ltS_asymm (hall a ha)] at hn; cases hn
      have e2 : r.filter (fun x => ltS n x.n) = r := by
        rw [List.filter_eq_self]; exact hall
      rw [e1, e2]; rfl
    · rename_i hx
      obtain ⟨hf, hr⟩ := ih h.2 hg
      refine ⟨hf, ?_⟩
      have hfm : f ∈ r := List.mem_of_find?_eq_some hg
      have h1 : ltS x.n n = true := by rw [← hf]; exact h.1 f hfm
      rw [List.filter_cons_of_pos (by simpa using h1), List.filter_cons_of_neg (by simp [ltS_asymm h1]), List.cons_append, ← hr]
theorem used_cons (f : Fl) (fs : List Fl) : used (f :: fs) = f.b.size + used fs := rfl
theorem put_none_is {fs : List Fl} {f : Fl} (h : fs.Pairwise (fun a b => ltS a.n b.n = true)) (hg : DP.get fs f.n = none) (hb : 0 < f.b.size) : (put fs f).length = fs.length + 1 ∧ used (put fs f) = used fs + f.b.size := by
  have hs := sorted_none h hg
  have h1 : fs.length = (fs.filter (fun x => ltS x.n f.n)).length + (fs.filter (fun x => ltS f.n x.n)).length := by
    conv => lhs; rw [hs]
    rw [List.length_append]
  have h2 : used fs = used (fs.filter (fun x => ltS x.n f.n)) + used (fs.filter (fun x => ltS f.n x.n)) := by
    conv => lhs; rw [hs]
    rw [used_append]
  unfold put opt
  rw [if_neg (by omega)]
  refine ⟨?_, ?_⟩
  · rw [List.length_append, List.length_append, List.length_singleton]; omega
  · rw [used_append, used_append, used_cons]; simp only [used]; omega
theorem put_some_is {fs : List Fl} {f g : Fl} (h : fs.Pairwise (fun a b => ltS a.n b.n = true)) (hg : DP.get fs f.n = some g) (hb : 0 < f.b.size) : (put fs f).length = fs.length ∧ used (put fs f) + g.b.size = used fs + f.b.size := by
  obtain ⟨_, hs⟩ := sorted_some h hg
  have h1 : fs.length = (fs.filter (fun x => ltS x.n f.n)).length + ((fs.filter (fun x => ltS f.n x.n)).length + 1) := by
    conv => lhs; rw [hs]
    rw [List.length_append, List.length_cons]
  have h2 : used fs = used (fs.filter (fun x => ltS x.n f.n)) + (g.b.size + used (fs.filter (fun x => ltS f.n x.n))) := by
    conv => lhs; rw [hs]
    rw [used_append, used_cons]
  unfold put opt
  rw [if_neg (by omega)]
  refine ⟨?_, ?_⟩
  · rw [List.length_append, List.length_append, List.length_singleton]; omega
  · rw [used_append, used_append, used_cons]; simp only [used]; omega
theorem get_put {fs : List Fl} {f : Fl} (hb : 0 < f.b.size) : DP.get (put fs f) f.n = some f := by
  unfold DP.get put opt
  rw [if_neg (by omega), List.find?_append]
  have e : (fs.filter (fun x => ltS x.n f.n)).find? (fun x => eqS x.n f.n) = none := by
    rw [List.find?_eq_none]
    intro x hx he
    have := (List.mem_filter.1 hx).2
    rw [eqS_iff.1 he, ltS_irrefl] at this
    cases this
  rw [e, Option.none_or, List.singleton_append, List.find?_cons_of_pos (by exact eqS_self _)]

/-- What an append makes of a valid disk that is up and not armed. -/
theorem does_put {fs : List Fl} {cap left : Int} {name b fn fb : ByteArray} {s : Int} (hc : check ⟨fs, cap, left, false⟩ = true) (hl : left < 0) (hn : okName name = true) (hb : 0 < b.size) (hg : (DP.get fs name).getD noFile = ⟨fn, fb, s⟩) :
    ((cap < (used fs : Int) + b.size ∨ (fb.size = 0 ∧ fs.length = 64)) → ∃ r, (r = 31 ∨ r = 3) ∧ does ⟨fs, cap, left, false⟩ ⟨0, name, b, 0⟩ = (noDisk, r)) ∧
    (¬ (cap < (used fs : Int) + b.size ∨ (fb.size = 0 ∧ fs.length = 64)) → does ⟨fs, cap, left, false⟩ ⟨0, name, b, 0⟩ = (⟨put fs ⟨name, fb ++ b, s⟩, cap, left, false⟩, 0) ∧ used (put fs ⟨name, fb ++ b, s⟩) = used fs + b.size ∧ DP.get (put fs ⟨name, fb ++ b, s⟩) name = some ⟨name, fb ++ b, s⟩) := by
  have hop : isOp ⟨0, name, b, 0⟩ = true := by
    unfold isOp
    simp [hn, hb]
  have hsz : (fb ++ b).size = fb.size + b.size := ByteArray.size_append
  have hsort := check_sorted hc
  obtain ⟨hlen, _, _, husd, _⟩ := check_parts hc
  simp only at hlen husd
  have hdo : does ⟨fs, cap, left, false⟩ ⟨0, name, b, 0⟩ = if 64 < (put fs ⟨name, fb ++ b, s⟩).length then (noDisk, 3) else if cap < (used (put fs ⟨name, fb ++ b, s⟩) : Int) then (noDisk, 31) else (⟨put fs ⟨name, fb ++ b, s⟩, cap, left, false⟩, 0) := by
    unfold does
    rw [if_neg (by rw [hc, hop]; simp), if_neg (by simp), if_neg (by simp only; omega)]
    unfold done
    simp only [hg]
    rw [if_neg (fun h => by omega), if_neg (by omega)]
    have hch : changed ⟨name, fb, s⟩ ⟨0, name, b, 0⟩ = ⟨name, fb ++ b, s⟩ := rfl
    rw [hch, if_neg (show ¬ 0 < left by omega)]
  have hput : (put fs ⟨name, fb ++ b, s⟩).length = fs.length + (if fb.size = 0 then 1 else 0) ∧ used (put fs ⟨name, fb ++ b, s⟩) = used fs + b.size := by
    cases hget : DP.get fs name with
    | none =>
      rw [hget] at hg
      simp only [Option.getD_none, noFile, Fl.mk.injEq] at hg
      obtain ⟨_, rfl, _⟩ := hg
      have h0 : none_.size = 0 := rfl
      obtain ⟨p1, p2⟩ := put_none_is (f := ⟨name, none_ ++ b, s⟩) hsort.1 hget (by simp only; omega)
      refine ⟨by rw [p1, if_pos h0], ?_⟩
      rw [p2]; simp only [hsz, h0]; omega
    | some g =>
      rw [hget] at hg
      simp only [Option.getD_some] at hg
      subst hg
      have hgm := List.mem_of_find?_eq_some hget
      obtain ⟨_, hpos, _, _⟩ := okFl_parts (hsort.2 _ hgm)
      simp only at hpos
      obtain ⟨p1, p2⟩ := put_some_is (f := ⟨name, fb ++ b, s⟩) hsort.1 hget (by simp only; omega)
      refine ⟨by rw [p1, if_neg (by omega)]; rfl, ?_⟩
      simp only [hsz] at p2
      omega
  obtain ⟨q1, q2⟩ := hput
  constructor
  · intro hfull
    by_cases h64 : 64 < (put fs ⟨name, fb ++ b, s⟩).length
    · exact ⟨3, .inr rfl, by rw [hdo, if_pos h64]⟩
    · refine ⟨31, .inl rfl, ?_⟩
      rw [hdo, if_neg h64, if_pos]
      rcases hfull with h | ⟨h0, h1⟩
      · rw [q2]; push_cast; omega
      · exfalso; rw [q1, if_pos h0] at h64; omega
  · intro hfit
    refine ⟨?_, q2, get_put (by simp only; omega)⟩
    rw [hdo, if_neg, if_neg]
    · intro h
      apply hfit
      left
      rw [q2] at h
      push_cast at h
      omega
    · intro h
      rw [q1] at h
      split at h
      · rename_i h0
        exact hfit (.inr ⟨h0, by omega⟩)
      · omega
end Go.Proofs.YtbglpmjfajmkdaaDoor.DP
