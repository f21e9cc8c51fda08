/-
  A file that is mended, in plain words (no program): the same loads, nothing torn; other files stay. No conditions.
-/
import Derived.Test.YtpppeadmhfggkaaDoorFilG3
namespace Go.Proofs.YtpppeadmhfggkaaDoor.FP

theorem num_take {l : List UInt8} {m : Nat} (h : 4 ≤ m) : num (l.take m) = num l := by
  unfold num
  rw [getD_take (by omega), getD_take (by omega), getD_take (by omega), getD_take (by omega)]
theorem fst_parts {l : List UInt8} (h : fst l ≠ 0) : num l ≤ 1024 ∧ num l + 4 ≤ l.length ∧ fst l = num l + 4 := by
  unfold fst at h ⊢
  split at h
  · rename_i hh; exact ⟨hh.1, hh.2, if_pos hh⟩
  · exact absurd rfl h
theorem fst_take {l : List UInt8} {m : Nat} (h : fst l ≠ 0) (hm : fst l ≤ m) : fst (l.take m) = fst l := by
  obtain ⟨h1, h2, h3⟩ := fst_parts h
  rw [h3] at hm ⊢
  have hn : num (l.take m) = num l := num_take (by omega)
  rw [fst_yes (by rw [hn]; exact h1) (by rw [hn, List.length_take]; omega), hn]
theorem load_take {l : List UInt8} {m : Nat} (h : fst l ≠ 0) (hm : fst l ≤ m) : load (l.take m) = load l := by
  unfold load
  rw [fst_take h hm, List.take_take, Nat.min_eq_left hm]
theorem rows_front (l : List UInt8) : rows (l.take (l.length - torn l)) = rows l ∧ torn (l.take (l.length - torn l)) = 0 := by
  by_cases h : fst l = 0
  · rw [torn_end h, Nat.sub_self, List.take_zero, rows_nil, torn_nil, rows_end h]
    exact ⟨rfl, rfl⟩
  · have hle := fst_le l
    have h4 := fst_four h
    have ih := rows_front (l.drop (fst l))
    have ht := torn_le (l.drop (fst l))
    rw [List.length_drop] at ih ht
    have hm : fst l ≤ l.length - torn l := by rw [torn_more h]; omega
    have hf := fst_take h hm
    have hd : (l.take (l.length - torn l)).drop (fst l) = (l.drop (fst l)).take (l.length - fst l - torn (l.drop (fst l))) := by
      rw [List.drop_take, torn_more h]
      congr 1
      omega
    have hne : fst (l.take (l.length - torn l)) ≠ 0 := by rw [hf]; exact h
    rw [rows_more hne, torn_more hne, load_take h hm, hf, hd, ih.1, ih.2, rows_more h]
    exact ⟨rfl, rfl⟩
termination_by l.length
decreasing_by
  have := fst_le l
  simp
  omega
end Go.Proofs.YtpppeadmhfggkaaDoor.FP
namespace Go.Proofs.YtpppeadmhfggkaaDoor.DP

theorem get_name {fs : List Fl} {n : ByteArray} {f : Fl} (h : get fs n = some f) : f.n = n := eqS_iff.1 (by have := List.find?_some h; simpa using this)
theorem get_put_none {fs : List Fl} {f : Fl} (hb : f.b.size = 0) : DP.get (put fs f) f.n = none := by
  unfold DP.get put opt
  rw [if_pos hb, List.nil_append, List.find?_eq_none]
  intro x hx
  rcases List.mem_append.1 hx with h | h
  · have := (List.mem_filter.1 h).2
    have hne := ltS_ne this
    simp [eqS_not.2 hne]
  · have := (List.mem_filter.1 h).2
    have hne := ltS_ne this
    simp [eqS_not.2 (Ne.symm hne)]
theorem doAll_same {d : Dk} {name : ByteArray} (h : tornIn d name = 0) : mends d name = (d, none) := by
  unfold mends mendOps
  rw [if_pos h]
  rfl

theorem mends_is {d : Dk} (hc : check d = true) (hdn : d.down = false) (hl : d.left < 0) (name : ByteArray) :
    ∃ fs', mends d name = ({ d with fs := fs' }, none) ∧ check { d with fs := fs' } = true ∧ rowsIn { d with fs := fs' } name = rowsIn d name ∧ tornIn { d with fs := fs' } name = 0 ∧ ∀ n, name ≠ n → get fs' n = get d.fs n := by
  by_cases h0 : tornIn d name = 0
  · exact ⟨d.fs, doAll_same h0, hc, rfl, h0, fun _ _ => rfl⟩
  · have hle := torn_size d name
    obtain ⟨t, ht⟩ : ∃ t, t = tornIn d name := ⟨_, rfl⟩
    rw [← ht] at h0 hle
    cases hg : get d.fs name with
    | none =>
      have hb : (bytesIn d name).size = 0 := by unfold bytesIn; rw [hg]; rfl
      omega
    | some f =>
      have hfn := get_name hg
      have hb : bytesIn d name = f.b := by unfold bytesIn; rw [hg]; rfl
      rw [hb] at hle
      have hok := (check_sorted hc).2 f (List.mem_of_find?_eq_some hg)
      obtain ⟨ok1, ok2, ok3, ok4⟩ := okFl_parts hok
      obtain ⟨w, hw⟩ : ∃ w : Wr, w = ⟨3, name, none_, (f.b.size : Int) - (t : Int)⟩ := ⟨_, rfl⟩
      have hkk : ((f.b.size : Int) - (t : Int)).toNat = f.b.size - t := by omega
      have hab : about d.fs w = f := by
        unfold about
        rw [hw]
        simp only [hg, Option.getD_some]
        rw [← hfn]
      have hch : changed f w = { f with b := f.b.extract 0 (f.b.size - t), s := (f.b.size : Int) - (t : Int) } := by
        rw [hw]
        unfold changed
        simp [hkk]
      obtain ⟨f', hf'⟩ : ∃ f' : Fl, f' = { f with b := f.b.extract 0 (f.b.size - t), s := (f.b.size : Int) - (t : Int) } := ⟨_, rfl⟩
      have hfn' : f'.n = name := by rw [hf']; exact hfn
      have hfb' : f'.b = f.b.extract 0 (f.b.size - t) := by rw [hf']
      have hfz : f'.b.size = f.b.size - t := by rw [hfb', ByteArray.size_extract]; omega
      rw [← hf'] at hch
      have hop : isOp w = true := by
        rw [hw]
        have : none_.size = 0 := rfl
        simp [isOp, ← hfn, ok1, this]
        omega
      have hus := used_put (f := f') (check_sorted hc)
      rw [hfn', hg] at hus
      simp only [Option.getD_some] at hus
      obtain ⟨k1, k2, k3, k4, _⟩ := check_parts hc
      have hlen : (put d.fs f').length ≤ d.fs.length := by
        by_cases hz : 0 < f'.b.size
        · rw [(put_some_is (check_sorted hc).1 (by rw [hfn']; exact hg) hz).1]; exact Nat.le_refl _
        · have h2 := filter_two d.fs f'.n
          unfold put opt
          rw [if_pos (by omega), List.nil_append, List.length_append]
          exact h2
      have hdo : does d w = ({ d with fs := put d.fs f' }, 0) := by
        have := does_mk hc hop hdn hl (by rintro ⟨h, _⟩; rw [hw] at h; rw [hg] at h; cases h) (by rw [hab, hw]; simp only; omega) (by rw [hab, hch]; omega) (by rw [hab, hch]; omega)
        rw [hab, hch] at this
        exact this
      have hm : mends d name = ({ d with fs := put d.fs f' }, none) := by
        unfold mends mendOps
        rw [← ht, if_neg h0, hb, ← hw, doAll_ok hdo]
        rfl
      have hck : check { d with fs := put d.fs f' } = true := by
        refine check_mk (by simp only; omega) k2 k3 (by simp only; omega) (rises_sorted.2 (put_sorted (check_sorted hc) ?_))
        by_cases hz : f'.b.size = 0
        · exact .inl hz
        · exact .inr (okFl_mk (by rw [hfn', ← hfn]; exact ok1) (by omega) (by rw [hf']; simp only; omega) (by rw [hfz]; rw [hf']; simp only; omega))
      have hbi : bytesIn { d with fs := put d.fs f' } name = f.b.extract 0 (f.b.size - t) := by
        unfold bytesIn
        by_cases hz : f'.b.size = 0
        · have h2 := get_put_none (fs := d.fs) hz
          rw [hfn'] at h2
          simp only [h2, Option.getD_none]
          rw [← hfb']
          exact (eq_none.2 hz).symm
        · have h2 := get_put (fs := d.fs) (f := f') (by omega)
          rw [hfn'] at h2
          simp only [h2, Option.getD_some]
          exact hfb'
      have hrf := FP.rows_front (bytesOf f.b)
      have htt : FP.torn (bytesOf f.b) = t := by rw [ht]; unfold tornIn; rw [hb]
      rw [htt, bytesOf_length] at hrf
      have he : bytesOf (f.b.extract 0 (f.b.size - t)) = (bytesOf f.b).take (f.b.size - t) := by rw [bytesOf_extract]; simp
      refine ⟨put d.fs f', hm, hck, ?_, ?_, fun n hn => get_put_other (by rw [hfn']; exact hn)⟩
      · unfold rowsIn
        rw [hbi, hb, he, hrf.1]
      · unfold tornIn
        rw [hbi, he, hrf.2]
end Go.Proofs.YtpppeadmhfggkaaDoor.DP
