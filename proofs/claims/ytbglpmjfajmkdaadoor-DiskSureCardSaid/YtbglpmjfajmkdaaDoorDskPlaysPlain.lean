/-
  What a script makes of a disk, in plain words (no program): each act leaves a valid disk. No conditions.
-/
import Derived.Test.YtbglpmjfajmkdaaDoorDskApartPlainB
import Derived.Test.YtbglpmjfajmkdaaDoorDskRefPlain
namespace Go.Proofs.YtbglpmjfajmkdaaDoor.DP

/-- A disk that may be, its Left within a machine's numbers. -/
def Fine (d : Dk) : Prop := check d = true ∧ -9223372036854775808 ≤ d.left ∧ d.left ≤ 9223372036854775807
theorem fine_none : Fine noDisk := ⟨by decide, by decide, by decide⟩
theorem fine_does {d d' : Dk} {w : Wr} {r : Int} (h : Fine d) (hd : does d w = (d', r)) : Fine d' := by
  unfold does at hd
  by_cases h1 : check d = false ∨ isOp w = false
  · rw [if_pos h1] at hd; injection hd with hd _; rw [← hd]; exact fine_none
  rw [if_neg h1] at hd
  have hop : isOp w = true := by
    cases hh : isOp w
    · exact absurd (.inr hh) h1
    · rfl
  by_cases h2 : d.down = true
  · rw [if_pos h2] at hd; injection hd with hd _; rw [← hd]; exact fine_none
  rw [if_neg h2] at hd
  by_cases h3 : d.left = 0
  · rw [if_pos h3] at hd; injection hd with hd _; rw [← hd]; exact h
  rw [if_neg h3, done_is] at hd
  by_cases h4 : get d.fs w.file = none ∧ w.b.size = 0
  · rw [if_pos h4] at hd; injection hd with hd _; rw [← hd]; exact fine_none
  rw [if_neg h4] at hd
  by_cases h5 : ((about d.fs w).b.size : Int) < w.n
  · rw [if_pos h5] at hd; injection hd with hd _; rw [← hd]; exact fine_none
  rw [if_neg h5] at hd
  by_cases h6 : 64 < (put d.fs (changed (about d.fs w) w)).length
  · rw [if_pos h6] at hd; injection hd with hd _; rw [← hd]; exact fine_none
  rw [if_neg h6] at hd
  by_cases h7 : d.cap < (used (put d.fs (changed (about d.fs w) w)) : Int)
  · rw [if_pos h7] at hd; injection hd with hd _; rw [← hd]; exact fine_none
  rw [if_neg h7] at hd
  injection hd with hd _
  obtain ⟨_, p2, p3, _, _⟩ := check_parts h.1
  have hs := check_sorted h.1
  have hsp := put_sorted hs (about_ok hs hop h4 h5)
  have hl := h.2
  rw [← hd]
  refine ⟨check_mk (by simp only; omega) p2 p3 (by simp only; omega) (rises_sorted.2 hsp), ?_, ?_⟩
  · simp only; split <;> omega
  · simp only; split <;> omega
theorem fine_arm {d d' : Dk} {k r : Int} (h : Fine d) (hk : k ≤ 9223372036854775807) (hd : arm d k = (d', r)) : Fine d' := by
  unfold arm at hd
  rw [if_neg (by rw [h.1]; simp)] at hd
  injection hd with hd _
  rw [← hd]
  obtain ⟨p1, p2, p3, p4, p5⟩ := check_parts h.1
  exact ⟨check_mk p1 p2 p3 p4 p5, by simp only; omega, by simp only; omega⟩
theorem left_name (f : Fl) (o : Option Int) : (left f o).n = f.n := rfl
theorem left_fits {f : Fl} (o : Option Int) (h : okFl f = true) : (left f o).b.size ≤ f.b.size ∧ (0 < (left f o).b.size → okFl (left f o) = true) := by
  obtain ⟨h1, _, h3, h4⟩ := okFl_parts h
  obtain ⟨v, hv⟩ : ∃ v : Int, v = f.s + (match o with | none => (0 : Int) | some k => min (max k 0) (f.b.size - f.s)) := ⟨_, rfl⟩
  have e : left f o = { f with b := f.b.extract 0 v.toNat, s := v } := by rw [hv]; rfl
  have hv0 : 0 ≤ v ∧ v ≤ f.b.size := by
    rw [hv]
    cases o with
    | none => simp only; omega
    | some k => simp only; omega
  have hsz : (f.b.extract 0 v.toNat).size = v.toNat := by rw [ByteArray.size_extract]; omega
  rw [e]
  refine ⟨by simp only [hsz]; omega, fun hp => okFl_mk h1 hp hv0.1 ?_⟩
  simp only [hsz]; omega
theorem lefts_ok (fs : List Fl) (ks : List Int) (h : fs.Pairwise (fun a b => ltS a.n b.n = true)) (ho : ∀ f ∈ fs, okFl f = true) :
    (lefts fs ks).Pairwise (fun a b => ltS a.n b.n = true) ∧ (∀ f ∈ lefts fs ks, 0 < f.b.size → okFl f = true) ∧ used (lefts fs ks) ≤ used fs ∧ (∀ f ∈ lefts fs ks, ∃ g ∈ fs, f.n = g.n) ∧ (lefts fs ks).length = fs.length := by
  induction fs generalizing ks with
  | nil => exact ⟨List.Pairwise.nil, (fun f hf => by cases hf), Nat.le_refl _, (fun f hf => by cases hf), rfl⟩
  | cons x r ih =>
    rw [List.pairwise_cons] at h
    have hx := ho x (List.mem_cons_self ..)
    have one : ∀ (o : Option Int) (t : List Int), (left x o :: lefts r t).Pairwise (fun a b => ltS a.n b.n = true) ∧ (∀ f ∈ left x o :: lefts r t, 0 < f.b.size → okFl f = true) ∧ used (left x o :: lefts r t) ≤ used (x :: r) ∧ (∀ f ∈ left x o :: lefts r t, ∃ g ∈ x :: r, f.n = g.n) ∧ (left x o :: lefts r t).length = (x :: r).length := by
      intro o t
      obtain ⟨a1, a2, a3, a4, a5⟩ := ih t h.2 (fun f hf => ho f (List.mem_cons_of_mem _ hf))
      obtain ⟨b1, b2⟩ := left_fits o hx
      refine ⟨List.Pairwise.cons (fun y hy => ?_) a1, fun f hf => ?_, by simp only [used]; omega, fun f hf => ?_, by simp only [List.length_cons, a5]⟩
      · obtain ⟨g, hg, e⟩ := a4 y hy
        rw [left_name, e]
        exact h.1 g hg
      · rcases List.mem_cons.1 hf with rfl | hf
        · exact b2
        · exact a2 f hf
      · rcases List.mem_cons.1 hf with rfl | hf
        · exact ⟨x, List.mem_cons_self .., rfl⟩
        · obtain ⟨g, hg, e⟩ := a4 f hf
          exact ⟨g, List.mem_cons_of_mem _ hg, e⟩
    cases ks with
    | nil => exact one none []
    | cons y t => exact one (some y) t
theorem used_filter (fs : List Fl) (p : Fl → Bool) : used (fs.filter p) ≤ used fs := by
  induction fs with
  | nil => exact Nat.le_refl _
  | cons x r ih =>
    cases h : p x
    · rw [List.filter_cons_of_neg (by simp [h])]; simp only [used]; omega
    · rw [List.filter_cons_of_pos h]; simp only [used]; omega
theorem fine_crash {d d' : Dk} {ks : List Int} {r : Int} (h : Fine d) (hd : crash d ks = (d', r)) : Fine d' := by
  unfold crash at hd
  rw [if_neg (by rw [h.1]; simp)] at hd
  injection hd with hd _
  rw [← hd]
  obtain ⟨p1, p2, p3, p4, p5⟩ := check_parts h.1
  have hs := check_sorted h.1
  obtain ⟨a1, a2, a3, _, a5⟩ := lefts_ok d.fs ks hs.1 hs.2
  have hl := List.length_filter_le (fun f : Fl => decide (0 < f.b.size)) (lefts d.fs ks)
  have hu := used_filter (lefts d.fs ks) (fun f : Fl => decide (0 < f.b.size))
  refine ⟨check_mk (by simp only; omega) p2 p3 (by simp only; omega) (rises_sorted.2 ⟨a1.filter _, fun f hf => ?_⟩), by simp only; omega, by simp only; omega⟩
  obtain ⟨hm, hp⟩ := List.mem_filter.1 hf
  exact a2 f hm (by simpa using hp)
theorem fine_new {k : Int} {d' : Dk} {r : Int} (hd : new k = (d', r)) : Fine d' := by
  unfold new at hd
  by_cases h : k < 0 ∨ 65536 < k
  · rw [if_pos h] at hd; injection hd with hd _; rw [← hd]; exact fine_none
  · rw [if_neg h] at hd; injection hd with hd _; rw [← hd]
    exact ⟨check_mk (by simp) (by simp only; omega) (by simp only; omega) (by simp [used]; omega) rfl, by simp, by simp⟩

/-- One act of a script. -/
structure Ac where
  act : Int
  w : Wr
  keep : List Int
  n : Int
/-- What an act's own function hands back. -/
def acts (d : Dk) (x : Ac) : Dk × Int := if x.act = 0 then does d x.w else if x.act = 1 then crash d x.keep else if x.act = 2 then arm d x.n else (d, 0)
/-- A disk behind an act: as it was, where that may not be. -/
def behind (d : Dk) (x : Ac) : Dk × Int := if (acts d x).2 ≠ 0 ∧ (acts d x).1.down = false then (d, (acts d x).2) else acts d x
theorem fine_acts {d d' : Dk} {x : Ac} {r : Int} (h : Fine d) (hn : x.n ≤ 9223372036854775807) (hd : acts d x = (d', r)) : Fine d' := by
  unfold acts at hd
  split at hd
  · exact fine_does h hd
  split at hd
  · exact fine_crash h hd
  split at hd
  · exact fine_arm h hn hd
  · injection hd with hd _; rw [← hd]; exact h
theorem fine_behind {d d' : Dk} {x : Ac} {r : Int} (h : Fine d) (hn : x.n ≤ 9223372036854775807) (hd : behind d x = (d', r)) : Fine d' := by
  unfold behind at hd
  split at hd
  · injection hd with hd _; rw [← hd]; exact h
  · exact fine_acts h hn hd
theorem Fine.small {d : Dk} (h : Fine d) : Small d.fs := check_small h.1
end Go.Proofs.YtbglpmjfajmkdaaDoor.DP
