/-
  What is sure stays at the front of its file, in plain words (no program): one act, whatever it is. No conditions.
-/
import Derived.Test.YtbglpmjfajmkdaaDoorDskPlaysPlain
namespace Go.Proofs.YtbglpmjfajmkdaaDoor.DP

/-- What is sure of a file. -/
def surely (f : Fl) : ByteArray := f.b.extract 0 f.s.toNat
theorem surely_size {f : Fl} (h : okFl f = true) : ((surely f).size : Int) = f.s := by
  obtain ⟨_, _, h3, h4⟩ := okFl_parts h
  unfold surely
  rw [ByteArray.size_extract]
  omega
/-- σ is at the front of f, and f says that it is sure. -/
def Front (σ : ByteArray) (f : Fl) : Prop := σ.size ≤ f.b.size ∧ f.b.extract 0 σ.size = σ ∧ (σ.size : Int) ≤ f.s ∧ f.s ≤ f.b.size
/-- What the law remembers: of each file what is sure of it, of what is no file nothing. -/
def Holds (fs : List Fl) (σ : ByteArray → ByteArray) : Prop := (∀ f ∈ fs, σ f.n = surely f) ∧ ∀ n, (∀ f ∈ fs, f.n ≠ n) → σ n = none_
/-- What it looks at behind an act. -/
def Keeps (fs : List Fl) (σ : ByteArray → ByteArray) : Prop := (∀ f ∈ fs, Front (σ f.n) f) ∧ ∀ n, (∀ f ∈ fs, f.n ≠ n) → σ n = none_
def setAt (σ : ByteArray → ByteArray) (n v : ByteArray) : ByteArray → ByteArray := fun m => if eqS m n then v else σ m
theorem setAt_same (σ : ByteArray → ByteArray) (n v : ByteArray) : setAt σ n v n = v := by unfold setAt; rw [eqS_self]; rfl
theorem setAt_other (σ : ByteArray → ByteArray) {n m : ByteArray} (v : ByteArray) (h : m ≠ n) : setAt σ n v m = σ m := by unfold setAt; rw [eqS_not.2 h]; rfl
/-- What it forgets at an act that replaces, shortens or deletes. -/
def forgets (x : Ac) (r : Int) : Bool := x.act == 0 && (r == 0 && (x.w.op != 0 && x.w.op != 1))
def forget (σ : ByteArray → ByteArray) (x : Ac) (r : Int) : ByteArray → ByteArray := if forgets x r then setAt σ x.w.file none_ else σ

theorem none_extract (k : Nat) : none_.extract 0 k = none_ := eq_none.2 (by rw [ByteArray.size_extract]; show min k 0 - 0 = 0; omega)
theorem extract_zero (b : ByteArray) : b.extract 0 0 = none_ := eq_none.2 (by rw [ByteArray.size_extract]; omega)
theorem front_none {f : Fl} (h0 : 0 ≤ f.s) (h1 : f.s ≤ f.b.size) : Front none_ f := ⟨Nat.zero_le _, extract_zero _, by show (0 : Int) ≤ _; exact h0, h1⟩
theorem front_self {f : Fl} (h : okFl f = true) : Front (surely f) f := by
  obtain ⟨_, _, h3, h4⟩ := okFl_parts h
  have hs := surely_size h
  have hs2 : (surely f).size = f.s.toNat := by omega
  exact ⟨by omega, by rw [hs2]; rfl, by omega, h4⟩
theorem keeps_same {fs : List Fl} {σ : ByteArray → ByteArray} (h : Holds fs σ) (ho : ∀ f ∈ fs, okFl f = true) : Keeps fs σ :=
  ⟨fun f hf => by rw [h.1 f hf]; exact front_self (ho f hf), h.2⟩
theorem cut_cut (b : ByteArray) {i j : Nat} (h : i ≤ j) : (b.extract 0 j).extract 0 i = b.extract 0 i := by
  rw [ByteArray.extract_extract]
  congr 1
  omega
theorem cut_more (a b : ByteArray) {i : Nat} (h : i ≤ a.size) : (a ++ b).extract 0 i = a.extract 0 i := by
  rw [ByteArray.extract_append, show i - a.size = 0 by omega, show (0 : Nat) - a.size = 0 by omega, extract_zero]
  apply ByteArray.ext
  rw [ByteArray.data_append]
  show (a.extract 0 i).data ++ #[] = _
  simp

/-- .. a crash. -/
theorem lefts_of (fs : List Fl) (ks : List Int) : (∀ g ∈ lefts fs ks, ∃ f ∈ fs, ∃ o, g = left f o) ∧ ∀ f ∈ fs, ∃ o, left f o ∈ lefts fs ks := by
  induction fs generalizing ks with
  | nil => exact ⟨(fun g hg => by cases hg), (fun f hf => by cases hf)⟩
  | cons x r ih =>
    have one : ∀ (o : Option Int) (t : List Int), (∀ g ∈ left x o :: lefts r t, ∃ f ∈ x :: r, ∃ o, g = left f o) ∧ ∀ f ∈ x :: r, ∃ o', left f o' ∈ left x o :: lefts r t := by
      intro o t
      obtain ⟨i1, i2⟩ := ih t
      refine ⟨fun g hg => ?_, fun f hf => ?_⟩
      · rcases List.mem_cons.1 hg with rfl | hg
        · exact ⟨x, List.mem_cons_self .., o, rfl⟩
        · obtain ⟨f, hf, o', e⟩ := i1 g hg
          exact ⟨f, List.mem_cons_of_mem _ hf, o', e⟩
      · rcases List.mem_cons.1 hf with rfl | hf
        · exact ⟨o, List.mem_cons_self ..⟩
        · obtain ⟨o', hm⟩ := i2 f hf
          exact ⟨o', List.mem_cons_of_mem _ hm⟩
    cases ks with
    | nil => exact one none []
    | cons y t => exact one (some y) t
theorem left_cut {f : Fl} (o : Option Int) (h : okFl f = true) : ∃ m : Nat, left f o = { f with b := f.b.extract 0 m, s := (m : Int) } ∧ f.s ≤ m ∧ m ≤ f.b.size := by
  obtain ⟨_, _, h3, h4⟩ := okFl_parts h
  obtain ⟨v, hv⟩ : ∃ v : Int, v = f.s + (match o with | none => (0 : Int) | some k => min (max k 0) (f.b.size - f.s)) := ⟨_, rfl⟩
  have e : left f o = { f with b := f.b.extract 0 v.toNat, s := v } := by rw [hv]; rfl
  have hv0 : f.s ≤ v ∧ v ≤ f.b.size := by
    rw [hv]
    cases o with
    | none => simp only; omega
    | some k => simp only; omega
  refine ⟨v.toNat, ?_, by omega, by omega⟩
  rw [e, show ((v.toNat : Nat) : Int) = v by omega]
theorem keeps_crash {fs : List Fl} {σ : ByteArray → ByteArray} (ks : List Int) (h : Holds fs σ) (ho : ∀ f ∈ fs, okFl f = true) : Keeps ((lefts fs ks).filter (fun f => decide (0 < f.b.size))) σ := by
  obtain ⟨l1, l2⟩ := lefts_of fs ks
  refine ⟨fun g hg => ?_, fun n hn => ?_⟩
  · obtain ⟨f, hf, o, rfl⟩ := l1 g (List.mem_filter.1 hg).1
    have hok := ho f hf
    obtain ⟨m, e, h1, h2⟩ := left_cut o hok
    obtain ⟨_, _, h3, h4⟩ := okFl_parts hok
    have hs := surely_size hok
    have hms : (f.b.extract 0 m).size = m := by rw [ByteArray.size_extract]; omega
    rw [left_name, h.1 f hf, e]
    have hs2 : (surely f).size = f.s.toNat := by omega
    refine ⟨by simp only [hms]; omega, ?_, by simp only; omega, by simp only [hms]; omega⟩
    simp only
    rw [cut_cut f.b (by omega), hs2]; rfl
  · by_cases hx : ∃ f ∈ fs, f.n = n
    · obtain ⟨f, hf, rfl⟩ := hx
      obtain ⟨o, hm⟩ := l2 f hf
      obtain ⟨m, e, h1, h2⟩ := left_cut o (ho f hf)
      obtain ⟨_, _, h3, h4⟩ := okFl_parts (ho f hf)
      have hms : (f.b.extract 0 m).size = m := by rw [ByteArray.size_extract]; omega
      by_cases hm0 : 0 < m
      · exact absurd rfl (hn (left f o) (List.mem_filter.2 ⟨hm, by rw [e]; exact decide_eq_true (by simp only [hms]; exact hm0)⟩))
      · rw [h.1 f hf]
        unfold surely
        rw [show f.s.toNat = 0 by omega]
        exact extract_zero _
    · exact h.2 n (fun f hf e => hx ⟨f, hf, e⟩)

/-- .. an operation that is done. -/
theorem does_zero {d d' : Dk} {w : Wr} (h : does d w = (d', 0)) :
    check d = true ∧ isOp w = true ∧ ¬ (get d.fs w.file = none ∧ w.b.size = 0) ∧ ¬ ((about d.fs w).b.size : Int) < w.n ∧ d'.fs = put d.fs (changed (about d.fs w) w) := by
  unfold does at h
  by_cases h1 : check d = false ∨ isOp w = false
  · rw [if_pos h1] at h; injection h with _ h; cases h
  rw [if_neg h1] at h
  by_cases h2 : d.down = true
  · rw [if_pos h2] at h; injection h with _ h; cases h
  rw [if_neg h2] at h
  by_cases h0 : d.left = 0
  · rw [if_pos h0] at h; injection h with _ h; cases h
  rw [if_neg h0, done_is] at h
  by_cases h3 : get d.fs w.file = none ∧ w.b.size = 0
  · rw [if_pos h3] at h; injection h with _ h; cases h
  rw [if_neg h3] at h
  by_cases h4 : ((about d.fs w).b.size : Int) < w.n
  · rw [if_pos h4] at h; injection h with _ h; cases h
  rw [if_neg h4] at h
  by_cases h5 : 64 < (put d.fs (changed (about d.fs w) w)).length
  · rw [if_pos h5] at h; injection h with _ h; cases h
  rw [if_neg h5] at h
  by_cases h6 : d.cap < (used (put d.fs (changed (about d.fs w) w)) : Int)
  · rw [if_pos h6] at h; injection h with _ h; cases h
  rw [if_neg h6] at h
  injection h with h _
  refine ⟨?_, ?_, h3, h4, by rw [← h]⟩
  · cases hc : check d
    · exact absurd (.inl hc) h1
    · rfl
  · cases hc : isOp w
    · exact absurd (.inr hc) h1
    · rfl
/-- .. whatever else leaves the files as they are, or none at all. -/
theorem does_else {d d' : Dk} {w : Wr} {r : Int} (h : does d w = (d', r)) (hr : r ≠ 0) : d' = noDisk ∨ d' = { d with down := true } := by
  unfold does at h
  split at h
  · injection h with h _; exact .inl h.symm
  split at h
  · injection h with h _; exact .inl h.symm
  split at h
  · injection h with h _; exact .inr h.symm
  rw [done_is] at h
  split at h
  · injection h with h _; exact .inl h.symm
  split at h
  · injection h with h _; exact .inl h.symm
  split at h
  · injection h with h _; exact .inl h.symm
  split at h
  · injection h with h _; exact .inl h.symm
  · injection h with _ h; exact absurd h.symm hr
theorem put_has {fs : List Fl} {f x : Fl} : x ∈ put fs f ↔ (x ∈ fs ∧ x.n ≠ f.n) ∨ (x = f ∧ f.b.size ≠ 0) := by
  unfold put opt
  simp only [List.mem_append, List.mem_filter]
  constructor
  · rintro (⟨h1, h2⟩ | h | ⟨h1, h2⟩)
    · exact .inl ⟨h1, ltS_ne h2⟩
    · split at h
      · cases h
      · rename_i hz
        exact .inr ⟨List.mem_singleton.1 h, hz⟩
    · exact .inl ⟨h1, (ltS_ne h2).symm⟩
  · rintro (⟨h1, h2⟩ | ⟨rfl, h⟩)
    · rcases ltS_total h2 with h3 | h3
      · exact .inl ⟨h1, h3⟩
      · exact .inr (.inr ⟨h1, h3⟩)
    · exact .inr (.inl (by rw [if_neg h]; exact List.mem_singleton.2 rfl))
theorem keeps_put {fs : List Fl} {σ : ByteArray → ByteArray} {w : Wr} (h : Holds fs σ) (hs : Sorted fs) (hop : isOp w = true) (h3 : ¬ (get fs w.file = none ∧ w.b.size = 0)) (h4 : ¬ ((about fs w).b.size : Int) < w.n) :
    Keeps (put fs (changed (about fs w) w)) (if w.op != 0 && w.op != 1 then setAt σ w.file none_ else σ) := by
  have hn : (changed (about fs w) w).n = w.file := changed_n _ _
  have hok := about_ok hs hop h3 h4
  -- what is remembered of the file that the operation is about
  have hab : (∃ f0 ∈ fs, f0.n = w.file ∧ get fs w.file = some f0 ∧ (about fs w).b = f0.b ∧ (about fs w).s = f0.s ∧ σ w.file = surely f0) ∨ (get fs w.file = none ∧ (about fs w).b = none_ ∧ (about fs w).s = 0 ∧ σ w.file = none_) := by
    cases hg : get fs w.file with
    | none =>
      refine .inr ⟨rfl, ?_, ?_, h.2 _ fun f hf e => ?_⟩
      · unfold about; rw [hg]; rfl
      · unfold about; rw [hg]; rfl
      · have := List.find?_eq_none.1 hg f hf
        exact this (by rw [e]; exact eqS_self _)
    | some f0 =>
      have hm := List.mem_of_find?_eq_some hg
      have he : f0.n = w.file := (sorted_some hs.1 hg).1
      refine .inl ⟨f0, hm, he, rfl, ?_, ?_, by rw [← he]; exact h.1 f0 hm⟩
      · unfold about; rw [hg]; rfl
      · unfold about; rw [hg]; rfl
  obtain ⟨_, hk0, hways⟩ := (show okName w.file = true ∧ 0 ≤ w.n ∧ ((w.op = 0 ∧ 0 < w.b.size) ∨ (w.op = 1) ∨ (w.op ≠ 0 ∧ w.op ≠ 1)) by
    have hp := hop
    unfold isOp at hp
    simp only [Bool.and_eq_true, decide_eq_true_eq] at hp
    refine ⟨hp.1.1, hp.1.2, ?_⟩
    by_cases o0 : w.op = 0
    · have h2 := hp.2
      rw [if_pos (.inl o0)] at h2
      exact .inl ⟨o0, (of_decide_eq_true h2).1⟩
    · by_cases o1 : w.op = 1
      · exact .inr (.inl o1)
      · exact .inr (.inr ⟨o0, o1⟩))
  -- a file that the operation is not about
  have other : ∀ σ' : ByteArray → ByteArray, (∀ m, m ≠ w.file → σ' m = σ m) → (∀ x ∈ fs, x.n ≠ w.file → Front (σ' x.n) x) ∧ ∀ n, n ≠ w.file → (∀ x ∈ put fs (changed (about fs w) w), x.n ≠ n) → σ' n = none_ := by
    intro σ' hσ
    refine ⟨fun x hx hne => ?_, fun n hne hx => ?_⟩
    · rw [hσ _ hne, h.1 x hx]
      exact front_self (hs.2 x hx)
    · rw [hσ _ hne]
      refine h.2 n fun f hf e => ?_
      exact hx f (put_has.2 (.inl ⟨hf, by rw [hn, e]; exact hne⟩)) e
  rcases hways with ⟨o0, hb⟩ | o1 | ⟨o0, o1⟩
  · -- an append
    have hcond : (w.op != 0 && w.op != 1) = false := by rw [o0]; rfl
    rw [if_neg (by rw [hcond]; simp)]
    obtain ⟨ot1, ot2⟩ := other σ (fun _ _ => rfl)
    have hch : changed (about fs w) w = { about fs w with b := (about fs w).b ++ w.b } := by unfold changed; rw [if_pos o0]
    have hsz : (changed (about fs w) w).b.size = (about fs w).b.size + w.b.size := by rw [hch]; exact ByteArray.size_append
    refine ⟨fun x hx => ?_, fun n hx => ?_⟩
    · rcases put_has.1 hx with ⟨h1, h2⟩ | ⟨rfl, h2⟩
      · exact ot1 x h1 (by rw [← hn]; exact h2)
      · rw [hn]
        rcases hab with ⟨f0, hf0, _, _, e1, e2, e3⟩ | ⟨_, e1, e2, e3⟩
        · have hok0 := hs.2 f0 hf0
          obtain ⟨_, _, p3, p4⟩ := okFl_parts hok0
          have hss := surely_size hok0
          have hs2 : (surely f0).size = f0.s.toNat := by omega
          rw [e3, hch]
          refine ⟨?_, ?_, ?_, ?_⟩
          · show (surely f0).size ≤ ((about fs w).b ++ w.b).size
            rw [ByteArray.size_append, e1]; omega
          · show ((about fs w).b ++ w.b).extract 0 (surely f0).size = surely f0
            rw [e1, cut_more _ _ (by omega), hs2]; rfl
          · show ((surely f0).size : Int) ≤ (about fs w).s
            rw [e2]; omega
          · show (about fs w).s ≤ (((about fs w).b ++ w.b).size : Nat)
            rw [ByteArray.size_append, e2, e1]; omega
        · rw [e3, hch]
          refine front_none ?_ ?_
          · show 0 ≤ (about fs w).s
            rw [e2]; omega
          · show (about fs w).s ≤ _
            rw [e2]; omega
    · by_cases hne : n = w.file
      · exact absurd (hn.trans hne.symm) (hx _ (put_has.2 (.inr ⟨rfl, by omega⟩)))
      · exact ot2 n hne hx
  · -- making sure
    have hcond : (w.op != 0 && w.op != 1) = false := by rw [o1]; rfl
    rw [if_neg (by rw [hcond]; simp)]
    obtain ⟨ot1, ot2⟩ := other σ (fun _ _ => rfl)
    have hch : changed (about fs w) w = { about fs w with s := (about fs w).b.size } := by unfold changed; rw [if_neg (by omega), if_pos o1]
    have hwb : w.b.size = 0 := by
      have hp := hop
      unfold isOp at hp
      rw [if_neg (by omega), if_pos (.inl o1)] at hp
      simp only [Bool.and_eq_true, decide_eq_true_eq] at hp
      exact hp.2.1
    obtain ⟨f0, hf0, hfn, hget, e1, e2, e3⟩ : ∃ f0 ∈ fs, f0.n = w.file ∧ get fs w.file = some f0 ∧ (about fs w).b = f0.b ∧ (about fs w).s = f0.s ∧ σ w.file = surely f0 := by
      rcases hab with h' | ⟨hg, _⟩
      · exact h'
      · exact absurd ⟨hg, hwb⟩ h3
    have hok0 := hs.2 f0 hf0
    obtain ⟨_, p2, p3, p4⟩ := okFl_parts hok0
    have hss := surely_size hok0
    have hs2 : (surely f0).size = f0.s.toNat := by omega
    refine ⟨fun x hx => ?_, fun n hx => ?_⟩
    · rcases put_has.1 hx with ⟨h1, h2⟩ | ⟨rfl, h2⟩
      · exact ot1 x h1 (by rw [← hn]; exact h2)
      · rw [hn, e3, hch]
        refine ⟨?_, ?_, ?_, ?_⟩
        · show (surely f0).size ≤ (about fs w).b.size
          rw [e1]; omega
        · show (about fs w).b.extract 0 (surely f0).size = surely f0
          rw [e1, hs2]; rfl
        · show ((surely f0).size : Int) ≤ ((about fs w).b.size : Nat)
          rw [e1]; omega
        · exact Int.le_refl _
    · by_cases hne : n = w.file
      · refine absurd (hn.trans hne.symm) (hx _ (put_has.2 (.inr ⟨rfl, ?_⟩)))
        rw [hch]
        show (about fs w).b.size ≠ 0
        rw [e1]; omega
      · exact ot2 n hne hx
  · -- what replaces, shortens or deletes
    have hcond : (w.op != 0 && w.op != 1) = true := by simp [o0, o1]
    rw [if_pos hcond]
    obtain ⟨ot1, ot2⟩ := other (setAt σ w.file none_) (fun m hm => setAt_other σ _ hm)
    refine ⟨fun x hx => ?_, fun n hx => ?_⟩
    · rcases put_has.1 hx with ⟨h1, h2⟩ | ⟨rfl, h2⟩
      · exact ot1 x h1 (by rw [← hn]; exact h2)
      · rw [hn, setAt_same]
        rcases hok with h' | h'
        · exact absurd h' h2
        · obtain ⟨_, _, q3, q4⟩ := okFl_parts h'
          exact front_none q3 q4
    · by_cases hne : n = w.file
      · rw [hne, setAt_same]
      · exact ot2 n hne hx
/-- One act: what was sure is still at the front of its file. -/
theorem keeps_act {d d' : Dk} {x : Ac} {r : Int} {σ : ByteArray → ByteArray} (hf : Fine d) (h : Holds d.fs σ) (hd : behind d x = (d', r)) : Keeps d'.fs (forget σ x r) := by
  have hs := check_sorted hf.1
  have same : forgets x r = false → d'.fs = d.fs → Keeps d'.fs (forget σ x r) := fun h1 h2 => by
    unfold forget
    rw [if_neg (by rw [h1]; simp), h2]
    exact keeps_same h hs.2
  obtain ⟨d1, r1, ha⟩ : ∃ d1 r1, acts d x = (d1, r1) := ⟨_, _, rfl⟩
  have hb : r = r1 ∧ ((r1 ≠ 0 ∧ d1.down = false ∧ d' = d) ∨ (¬ (r1 ≠ 0 ∧ d1.down = false) ∧ d' = d1)) := by
    unfold behind at hd
    rw [ha] at hd
    split at hd
    · rename_i hh
      injection hd with e1 e2
      exact ⟨e2.symm, .inl ⟨hh.1, hh.2, e1.symm⟩⟩
    · rename_i hh
      injection hd with e1 e2
      exact ⟨e2.symm, .inr ⟨hh, e1.symm⟩⟩
  obtain ⟨rfl, hb⟩ := hb
  unfold acts at ha
  by_cases a0 : x.act = 0
  · rw [if_pos a0] at ha
    by_cases hr : r = 0
    · subst hr
      obtain ⟨_, hop, h3, h4, hput⟩ := does_zero ha
      have hd1 : d' = d1 := by
        rcases hb with ⟨h, _⟩ | ⟨_, h⟩
        · exact absurd rfl h
        · exact h
      rw [hd1, hput]
      have hk := keeps_put h hs hop h3 h4
      have e : forget σ x 0 = (if x.w.op != 0 && x.w.op != 1 then setAt σ x.w.file none_ else σ) := by
        unfold forget forgets
        rw [a0]
        simp
      rw [e]
      exact hk
    · refine same ?_ ?_
      · unfold forgets
        have : (r == 0) = false := by rw [beq_eq_false_iff_ne]; exact hr
        rw [this]; simp
      · rcases hb with ⟨_, _, h⟩ | ⟨hh, h⟩
        · rw [h]
        · rcases does_else ha hr with h1 | h1
          · exact absurd ⟨hr, by rw [h1]; rfl⟩ hh
          · rw [h, h1]
  have hnf : forgets x r = false := by
    unfold forgets
    have : (x.act == 0) = false := by rw [beq_eq_false_iff_ne]; exact a0
    rw [this]; rfl
  rw [if_neg a0] at ha
  by_cases a1 : x.act = 1
  · rw [if_pos a1] at ha
    unfold crash at ha
    rw [if_neg (by rw [hf.1]; simp)] at ha
    injection ha with e1 e2
    rcases hb with ⟨_, _, h2⟩ | ⟨_, h2⟩
    · exact same hnf (by rw [h2])
    · unfold forget
      rw [if_neg (by rw [hnf]; simp), h2, ← e1]
      exact keeps_crash x.keep h hs.2
  rw [if_neg a1] at ha
  by_cases a2 : x.act = 2
  · rw [if_pos a2] at ha
    unfold arm at ha
    rw [if_neg (by rw [hf.1]; simp)] at ha
    injection ha with e1 e2
    refine same hnf ?_
    rcases hb with ⟨_, _, h2⟩ | ⟨_, h2⟩
    · rw [h2]
    · rw [h2, ← e1]
  · rw [if_neg a2] at ha
    injection ha with e1 e2
    refine same hnf ?_
    rcases hb with ⟨_, _, h2⟩ | ⟨_, h2⟩
    · rw [h2]
    · rw [h2, ← e1]

/-- The files so far: what is remembered once the first k have been looked at. -/
def remember (σ : ByteArray → ByteArray) (fs : List Fl) : ByteArray → ByteArray := fs.foldl (fun τ f => setAt τ f.n (surely f)) σ
theorem remember_step {σ : ByteArray → ByteArray} {fs : List Fl} {k : Nat} {f : Fl} (h : fs[k]? = some f) : remember σ (fs.take (k + 1)) = setAt (remember σ (fs.take k)) f.n (surely f) := by
  obtain ⟨hk, hf⟩ := List.getElem?_eq_some_iff.1 h
  unfold remember
  rw [List.take_succ_eq_append_getElem hk, List.foldl_append, hf]
  rfl
theorem remember_other {σ : ByteArray → ByteArray} {fs : List Fl} {n : ByteArray} (h : ∀ f ∈ fs, f.n ≠ n) : remember σ fs n = σ n := by
  induction fs generalizing σ with
  | nil => rfl
  | cons x r ih =>
    show remember (setAt σ x.n (surely x)) r n = σ n
    rw [ih fun f hf => h f (List.mem_cons_of_mem _ hf)]
    exact setAt_other σ _ (fun e => h x (List.mem_cons_self ..) e.symm)
theorem remember_at {σ : ByteArray → ByteArray} {fs : List Fl} (hp : fs.Pairwise (fun a b => ltS a.n b.n = true)) {f : Fl} (hf : f ∈ fs) : remember σ fs f.n = surely f := by
  induction fs generalizing σ with
  | nil => cases hf
  | cons x r ih =>
    rw [List.pairwise_cons] at hp
    show remember (setAt σ x.n (surely x)) r f.n = surely f
    rcases List.mem_cons.1 hf with rfl | hf
    · rw [remember_other fun g hg => (ltS_ne (hp.1 g hg)).symm]
      exact setAt_same _ _ _
    · exact ih hp.2 hf
theorem holds_remember {σ : ByteArray → ByteArray} {fs : List Fl} (hp : fs.Pairwise (fun a b => ltS a.n b.n = true)) (h : Keeps fs σ) : Holds fs (remember σ fs) :=
  ⟨fun _ hf => remember_at hp hf, fun n hn => by rw [remember_other hn]; exact h.2 n hn⟩
/-- The next file has not been looked at. -/
theorem remember_next {σ : ByteArray → ByteArray} {fs : List Fl} {k : Nat} {f : Fl} (hp : fs.Pairwise (fun a b => ltS a.n b.n = true)) (h : fs[k]? = some f) : remember σ (fs.take k) f.n = σ f.n := by
  obtain ⟨hk, hf⟩ := List.getElem?_eq_some_iff.1 h
  refine remember_other fun g hg => ?_
  obtain ⟨j, hj⟩ := List.mem_iff_getElem?.1 hg
  rw [List.getElem?_take] at hj
  split at hj
  · rename_i hjk
    obtain ⟨hj2, e⟩ := List.getElem?_eq_some_iff.1 hj
    have := List.pairwise_iff_getElem.1 hp j k hj2 hk hjk
    rw [e, hf] at this
    exact ltS_ne this
  · cases hj
end Go.Proofs.YtbglpmjfajmkdaaDoor.DP
