/-
  Two operations on different files, in either order, in plain words (no program). No conditions.
-/
import Derived.Test.YtbglpmjfajmkdaaDoorDskApartPlain
namespace Go.Proofs.YtbglpmjfajmkdaaDoor.DP

/-- The file that an operation is about, as it is before. -/
def about (fs : List Fl) (w : Wr) : Fl := { ((get fs w.file).getD noFile) with n := w.file }
theorem about_congr {fs gs : List Fl} {w : Wr} (h : get fs w.file = get gs w.file) : about fs w = about gs w := by
  unfold about
  rw [h]
theorem changed_n (f : Fl) (w : Wr) : (changed f w).n = f.n := by
  unfold changed
  split
  · rfl
  split
  · rfl
  split
  · rfl
  split
  · rfl
  · rfl
theorem changed_size (f : Fl) (w : Wr) : (changed f w).b.size ≤ f.b.size + w.b.size := by
  unfold changed
  split
  · show (f.b ++ w.b).size ≤ _
    rw [ByteArray.size_append]; omega
  split
  · show f.b.size ≤ _; omega
  split
  · show w.b.size ≤ _; omega
  split
  · show (f.b.extract 0 w.n.toNat).size ≤ _
    rw [ByteArray.size_extract]; omega
  · show (0 : Nat) ≤ _; omega
theorem used_opt (f : Fl) : used (opt f) = f.b.size := by
  unfold opt
  split
  · rename_i h; rw [h]; rfl
  · rfl
theorem used_put {fs : List Fl} {f : Fl} (h : Sorted fs) : used (put fs f) + ((get fs f.n).getD noFile).b.size = used fs + f.b.size := by
  have e : used (put fs f) = used (fs.filter (fun x => ltS x.n f.n)) + (f.b.size + used (fs.filter (fun x => ltS f.n x.n))) := by
    unfold put
    rw [used_append, used_append, used_opt]
  cases hg : get fs f.n with
  | none =>
    have h2 : used fs = used (fs.filter (fun x => ltS x.n f.n)) + used (fs.filter (fun x => ltS f.n x.n)) := by
      conv => lhs; rw [sorted_none h.1 hg]
      rw [used_append]
    have h0 : ((none : Option Fl).getD noFile).b.size = 0 := rfl
    rw [h0]; omega
  | some g =>
    obtain ⟨_, hs⟩ := sorted_some h.1 hg
    have h2 : used fs = used (fs.filter (fun x => ltS x.n f.n)) + (g.b.size + used (fs.filter (fun x => ltS f.n x.n))) := by
      conv => lhs; rw [hs]
      rw [used_append, used_cons]
    show used (put fs f) + g.b.size = _
    omega
theorem used_done {fs : List Fl} {w : Wr} (h : Sorted fs) : used (put fs (changed (about fs w) w)) ≤ used fs + w.b.size := by
  have hn : (changed (about fs w) w).n = w.file := changed_n _ _
  have hu := used_put (f := changed (about fs w) w) h
  have hs := changed_size (about fs w) w
  rw [hn] at hu
  have hb : (about fs w).b.size = ((get fs w.file).getD noFile).b.size := rfl
  omega

theorem done_is (d : Dk) (w : Wr) : done d w = if get d.fs w.file = none ∧ w.b.size = 0 then (noDisk, 32) else if ((about d.fs w).b.size : Int) < w.n then (noDisk, 2) else
    if 64 < (put d.fs (changed (about d.fs w) w)).length then (noDisk, 3) else if d.cap < (used (put d.fs (changed (about d.fs w) w)) : Int) then (noDisk, 31) else
      ({ d with fs := put d.fs (changed (about d.fs w) w), left := if 0 < d.left then d.left - 1 else d.left }, 0) := rfl
theorem does_ok {d d' : Dk} {w : Wr} (hl : d.left < 0) (h : does d w = (d', 0)) :
    check d = true ∧ isOp w = true ∧ d.down = false ∧ ¬ (get d.fs w.file = none ∧ w.b.size = 0) ∧ ¬ ((about d.fs w).b.size : Int) < w.n ∧ d' = { d with fs := put d.fs (changed (about d.fs w) w) } := by
  unfold does at h
  by_cases h1 : check d = false ∨ isOp w = false
  · rw [if_pos h1] at h; injection h with _ h; cases h
  rw [if_neg h1] at h
  by_cases h2 : d.down = true
  · rw [if_pos h2] at h; injection h with _ h; cases h
  rw [if_neg h2, if_neg (by omega), done_is] at h
  by_cases h3 : get d.fs w.file = none ∧ w.b.size = 0
  · rw [if_pos h3] at h; injection h with _ h; cases h
  rw [if_neg h3] at h
  by_cases h4 : ((about d.fs w).b.size : Int) < w.n
  · rw [if_pos h4] at h; injection h with _ h; cases h
  rw [if_neg h4] at h
  by_cases h5 : 64 < (put d.fs (changed (about d.fs w) w)).length
  · rw [if_pos h5] at h; injection h with _ h; cases h
  rw [if_neg h5] at h
  by_cases h6 : d.cap < (used (put d.fs (changed (about d.fs w) w)) : Int)
  · rw [if_pos h6] at h; injection h with _ h; cases h
  rw [if_neg h6, if_neg (show ¬ 0 < d.left by omega)] at h
  injection h with h _
  refine ⟨?_, ?_, by simpa using h2, h3, h4, h.symm⟩
  · cases hc : check d
    · exact absurd (.inl hc) h1
    · rfl
  · cases hc : isOp w
    · exact absurd (.inr hc) h1
    · rfl
theorem does_mk {d : Dk} {w : Wr} (hc : check d = true) (hop : isOp w = true) (hd : d.down = false) (hl : d.left < 0) (h3 : ¬ (get d.fs w.file = none ∧ w.b.size = 0)) (h4 : ¬ ((about d.fs w).b.size : Int) < w.n)
    (h5 : (put d.fs (changed (about d.fs w) w)).length ≤ 64) (h6 : (used (put d.fs (changed (about d.fs w) w)) : Int) ≤ d.cap) : does d w = ({ d with fs := put d.fs (changed (about d.fs w) w) }, 0) := by
  unfold does
  rw [if_neg (by rw [hc, hop]; simp), if_neg (by rw [hd]; simp), if_neg (by omega), done_is, if_neg h3, if_neg h4, if_neg (by omega), if_neg (by omega), if_neg (show ¬ 0 < d.left by omega)]

theorem about_ok {fs : List Fl} {w : Wr} (hs : Sorted fs) (hop : isOp w = true) (h3 : ¬ (get fs w.file = none ∧ w.b.size = 0)) (h4 : ¬ ((about fs w).b.size : Int) < w.n) : (changed (about fs w) w).b.size = 0 ∨ okFl (changed (about fs w) w) = true := by
  unfold about at h4 ⊢
  cases hg : get fs w.file with
  | none =>
    rw [hg] at h3 h4
    have hb : 0 < w.b.size := by
      rcases Nat.eq_zero_or_pos w.b.size with h | h
      · exact absurd ⟨rfl, h⟩ h3
      · exact h
    exact changed_ok hop rfl (by show (0 : Int) ≤ 0; omega) (by show (0 : Int) ≤ _; omega) (.inr hb) (by omega)
  | some g =>
    rw [hg] at h4
    obtain ⟨_, p1, p2, p3⟩ := okFl_parts (hs.2 _ (List.mem_of_find?_eq_some hg))
    exact changed_ok hop rfl p2 p3 (.inl p1) (by omega)

/-- Either order comes to the same disk. -/
theorem apart {fs : List Fl} {cap left : Int} {v w : Wr} {a b : Dk} (hl : left < 0) (hn : fs.length ≤ 62) (hu : (used fs : Int) + v.b.size + w.b.size ≤ cap) (hvw : v.file ≠ w.file)
    (ha : does ⟨fs, cap, left, false⟩ v = (a, 0)) (hb : does ⟨fs, cap, left, false⟩ w = (b, 0)) :
    ∃ fa fb fx, a = ⟨fa, cap, left, false⟩ ∧ b = ⟨fb, cap, left, false⟩ ∧ does a w = (⟨fx, cap, left, false⟩, 0) ∧ does b v = (⟨fx, cap, left, false⟩, 0) ∧ Small fa ∧ Small fb ∧ fx.length ≤ 100 := by
  obtain ⟨hc, hop1, _, h3, h4, rfl⟩ := does_ok (by exact hl) ha
  obtain ⟨_, hop2, _, k3, k4, rfl⟩ := does_ok (by exact hl) hb
  simp only at h3 h4 k3 k4
  have hs : Sorted fs := check_sorted hc
  have nv : (changed (about fs v) v).n = v.file := changed_n _ _
  have nw : (changed (about fs w) w).n = w.file := changed_n _ _
  have u1 := used_done (w := v) hs
  have u2 := used_done (w := w) hs
  have l1 := put_length fs (changed (about fs v) v)
  have l2 := put_length fs (changed (about fs w) w)
  obtain ⟨_, p2, p3, _, _⟩ := check_parts hc
  simp only at p2 p3
  have okv : (changed (about fs v) v).b.size = 0 ∨ okFl (changed (about fs v) v) = true := about_ok hs hop1 h3 h4
  have okw : (changed (about fs w) w).b.size = 0 ∨ okFl (changed (about fs w) w) = true := about_ok hs hop2 k3 k4
  have s1 := put_sorted hs okv
  have s2 := put_sorted hs okw
  have c1 : check ⟨put fs (changed (about fs v) v), cap, left, false⟩ = true := check_mk (by simp only; omega) p2 p3 (by simp only; omega) (rises_sorted.2 s1)
  have c2 : check ⟨put fs (changed (about fs w) w), cap, left, false⟩ = true := check_mk (by simp only; omega) p2 p3 (by simp only; omega) (rises_sorted.2 s2)
  have g1 : get (put fs (changed (about fs v) v)) w.file = get fs w.file := get_put_other (by rw [nv]; exact hvw)
  have g2 : get (put fs (changed (about fs w) w)) v.file = get fs v.file := get_put_other (by rw [nw]; exact fun e => hvw e.symm)
  have a1 : about (put fs (changed (about fs v) v)) w = about fs w := about_congr g1
  have a2 : about (put fs (changed (about fs w) w)) v = about fs v := about_congr g2
  have v1 := used_done (w := w) s1
  have v2 := used_done (w := v) s2
  have m1 := put_length (put fs (changed (about fs v) v)) (changed (about fs w) w)
  have m2 := put_length (put fs (changed (about fs w) w)) (changed (about fs v) v)
  rw [a1] at v1
  rw [a2] at v2
  refine ⟨_, _, put (put fs (changed (about fs v) v)) (changed (about fs w) w), rfl, rfl, ?_, ?_, check_small c1, check_small c2, by omega⟩
  · have h := does_mk (d := ⟨put fs (changed (about fs v) v), cap, left, false⟩) (w := w) c1 hop2 rfl hl (by simp only [g1]; exact k3) (by simp only [a1]; exact k4) (by simp only [a1]; omega) (by simp only [a1]; omega)
    rw [h]
    simp only [a1]
  · have h := does_mk (d := ⟨put fs (changed (about fs w) w), cap, left, false⟩) (w := v) c2 hop1 rfl hl (by simp only [g2]; exact h3) (by simp only [a2]; exact h4) (by simp only [a2]; omega) (by simp only [a2]; omega)
    rw [h]
    simp only [a2]
    rw [put_comm _ _ _ (by rw [nv, nw]; exact fun e => hvw e.symm)]
end Go.Proofs.YtbglpmjfajmkdaaDoor.DP
