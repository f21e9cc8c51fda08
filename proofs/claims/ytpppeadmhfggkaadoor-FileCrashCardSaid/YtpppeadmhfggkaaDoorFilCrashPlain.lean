/-
  A disk of one file "a": what Put, a crash and Mend make of it (no program). No conditions.
-/
import Derived.Test.YtpppeadmhfggkaaDoorFilOne
import Derived.Test.YtpppeadmhfggkaaDoorFilMendPlain
namespace Go.Proofs.YtpppeadmhfggkaaDoor.FP
theorem flat_front (ls : List (List UInt8)) (k : Nat) : (flat ls).take (sum (ls.take k)) = flat (ls.take k) := by
  have e : flat ls = flat (ls.take k) ++ flat (ls.drop k) := by rw [← flat_append, List.take_append_drop]
  rw [e, ← flat_length, List.take_left]
theorem sum_mono (ls : List (List UInt8)) {i j : Nat} (h : i ≤ j) : sum (ls.take i) ≤ sum (ls.take j) := by
  have := sum_take_le (ls.take j) i
  rwa [List.take_take, Nat.min_eq_left h] at this
end Go.Proofs.YtpppeadmhfggkaaDoor.FP
namespace Go.Proofs.YtpppeadmhfggkaaDoor.DP
open Go.RowKit

abbrev D0 : Dk := ⟨[], 65536, -1, false⟩
abbrev D1 (b : ByteArray) (s : Int) : Dk := ⟨[⟨wkA, b, s⟩], 65536, -1, false⟩

theorem puts_none {d : Dk} {name : ByteArray} {ls : List (List UInt8)} (h : (flatS ls).size = 0) : puts d name ls = (d, some (0, name, 2)) := by
  have hd : does d ⟨0, name, flatS ls, 0⟩ = (noDisk, 2) := by
    unfold does
    rw [if_pos (.inr (by simp [isOp, h]))]
  unfold puts
  exact doAll_no hd (by decide) (by intro h; exact absurd h.1 (by decide))
theorem sync_one {b : ByteArray} {s : Int} (h : 0 < b.size) (h' : b.size ≤ 65536) (h0 : 0 ≤ s) (h1 : s ≤ b.size) : does (D1 b s) ⟨1, wkA, none_, 0⟩ = (D1 b b.size, 0) :=
  one_does h (by omega) (by omega) h0 h1 isOp_sync rfl (by simp only; omega) rfl h (by omega)
theorem puts_new {ls : List (List UInt8)} (hf : fits ls = true) (h0 : 0 < FP.sum ls) (h1 : FP.sum ls ≤ 65536) : puts D0 wkA ls = (D1 (str (FP.flat ls)) (FP.sum ls), none) := by
  have hz : (str (FP.flat ls)).size = FP.sum ls := by rw [str_size, FP.flat_length]
  have e : none_ ++ str (FP.flat ls) = str (FP.flat ls) := by
    apply toList_inj
    rw [Lib.toList_data, Lib.toList_data]
    simp [none_]
  have hd : does D0 ⟨0, wkA, str (FP.flat ls), 0⟩ = (D1 (str (FP.flat ls)) 0, 0) :=
    none_does (by omega) (by omega) (isOp_app (by omega)) rfl (by simp only; omega) rfl (by unfold changed; rw [if_pos rfl]; simp only [e]) (by omega) (by omega)
  have hs := sync_one (b := str (FP.flat ls)) (s := 0) (by omega) (by omega) (by omega) (by omega)
  unfold puts
  rw [flatS_yes hf, doAll_ok hd, doAll_ok hs, hz]
  rfl
theorem puts_new_full {ls : List (List UInt8)} (hf : fits ls = true) (h1 : 65536 < FP.sum ls) : puts D0 wkA ls = (D0, some (0, wkA, 31)) := by
  have hz : (str (FP.flat ls)).size = FP.sum ls := by rw [str_size, FP.flat_length]
  have e : none_ ++ str (FP.flat ls) = str (FP.flat ls) := by
    apply toList_inj
    rw [Lib.toList_data, Lib.toList_data]
    simp [none_]
  have hd : does D0 ⟨0, wkA, str (FP.flat ls), 0⟩ = (noDisk, 31) :=
    none_full (b' := str (FP.flat ls)) (s' := 0) (by omega) (by omega) (isOp_app (by omega)) rfl (by simp only; omega) rfl (by unfold changed; rw [if_pos rfl]; simp only [e]) (by omega)
  unfold puts
  rw [flatS_yes hf]
  exact doAll_no hd (by decide) (by intro h; exact absurd h.1 (by decide))
section
variable {b x : ByteArray} {s : Int}
theorem app_one (h : 0 < b.size) (h0 : 0 ≤ s) (h1 : s ≤ b.size) (hx : 0 < x.size) (h2 : b.size + x.size ≤ 65536) : does (D1 b s) ⟨0, wkA, x, 0⟩ = (D1 (b ++ x) s, 0) :=
  one_does h (by omega) (by omega) h0 h1 (isOp_app hx) rfl (by simp only; omega) (by unfold changed; rw [if_pos rfl]) (by rw [ByteArray.size_append]; omega) (by rw [ByteArray.size_append]; omega)
theorem app_full (h : 0 < b.size) (hb : b.size ≤ 65536) (h0 : 0 ≤ s) (h1 : s ≤ b.size) (hx : 0 < x.size) (h2 : 65536 < b.size + x.size) : does (D1 b s) ⟨0, wkA, x, 0⟩ = (noDisk, 31) :=
  one_full (b' := b ++ x) (s' := s) h (by omega) (by omega) h0 h1 (isOp_app hx) rfl (by simp only; omega) (by unfold changed; rw [if_pos rfl]) (by rw [ByteArray.size_append]; omega)
end
theorem puts_one {b : ByteArray} {s : Int} {ls : List (List UInt8)} (h : 0 < b.size) (h0 : 0 ≤ s) (h1 : s ≤ b.size) (hf : fits ls = true) (hz : 0 < FP.sum ls) (h2 : b.size + FP.sum ls ≤ 65536) : puts (D1 b s) wkA ls = (D1 (b ++ str (FP.flat ls)) ((b.size : Int) + (FP.sum ls : Int)), none) := by
  have hzs : (str (FP.flat ls)).size = FP.sum ls := by rw [str_size, FP.flat_length]
  have hd := app_one (x := str (FP.flat ls)) h h0 h1 (by omega) (by omega)
  have hs := sync_one (b := b ++ str (FP.flat ls)) (s := s) (by rw [ByteArray.size_append]; omega) (by rw [ByteArray.size_append]; omega) h0 (by rw [ByteArray.size_append]; omega)
  unfold puts
  rw [flatS_yes hf, doAll_ok hd, doAll_ok hs, ByteArray.size_append, hzs, doAll_nil, Int.natCast_add]
theorem puts_one_full {b : ByteArray} {s : Int} {ls : List (List UInt8)} (h : 0 < b.size) (hb : b.size ≤ 65536) (h0 : 0 ≤ s) (h1 : s ≤ b.size) (hf : fits ls = true) (hz : 0 < FP.sum ls) (h2 : 65536 < b.size + FP.sum ls) : puts (D1 b s) wkA ls = (D1 b s, some (0, wkA, 31)) := by
  have hzs : (str (FP.flat ls)).size = FP.sum ls := by rw [str_size, FP.flat_length]
  have hd := app_full (x := str (FP.flat ls)) h hb h0 h1 (by omega) (by omega)
  unfold puts
  rw [flatS_yes hf]
  exact doAll_no hd (by decide) (by intro h; exact absurd h.1 (by decide))

/-- What a crash leaves of the file. -/
theorem crash_one {b : ByteArray} {s : Nat} (keep : Int) (h0 : 0 < s) (h1 : s ≤ b.size) :
    ∃ M : Nat, s ≤ M ∧ M ≤ b.size ∧ (lefts [⟨wkA, b, (s : Int)⟩] [keep]).filter (fun f => decide (0 < f.b.size)) = [⟨wkA, b.extract 0 M, (M : Int)⟩] := by
  obtain ⟨M, hM⟩ : ∃ M : Nat, (M : Int) = (s : Int) + min (max keep 0) ((b.size : Int) - (s : Int)) := ⟨((s : Int) + min (max keep 0) ((b.size : Int) - (s : Int))).toNat, by omega⟩
  refine ⟨M, by omega, by omega, ?_⟩
  have e : lefts [⟨wkA, b, (s : Int)⟩] [keep] = [⟨wkA, b.extract 0 M, (M : Int)⟩] := by
    simp only [lefts, left]
    rw [← hM]
    simp
  rw [e, List.filter_cons_of_pos (by simp only [decide_eq_true_eq, ByteArray.size_extract]; omega)]
  rfl
/-- A file of one disk, mended. -/
theorem mend_one {x : ByteArray} {s : Int} (h : 0 < x.size) (hx : x.size ≤ 65536) (h0 : 0 ≤ s) (h1 : s ≤ x.size) {t q : Nat} (ht : FP.torn (bytesOf x) = t) (hq : q + t = x.size) (hq0 : 0 < q) :
    ∃ s2 : Int, 0 ≤ s2 ∧ s2 ≤ q ∧ mends (D1 x s) wkA = (D1 (x.extract 0 q) s2, none) := by
  have htn : tornIn (D1 x s) wkA = t := by unfold tornIn; rw [one_get, ht]
  by_cases hz : t = 0
  · have hqx : q = x.size := by omega
    refine ⟨s, h0, by omega, ?_⟩
    rw [doAll_same (by rw [htn, hz])]
    have : x.extract 0 q = x := by
      apply bytesOf_inj
      rw [bytesOf_extract, hqx]
      simp [← bytesOf_length]
    rw [this]
  · refine ⟨(q : Int), by omega, by omega, ?_⟩
    have hd : does (D1 x s) ⟨3, wkA, none_, ((x.size : Int) - (t : Int))⟩ = (D1 (x.extract 0 q) q, 0) :=
      one_does h (by omega) (by omega) h0 h1 (isOp_cut (by omega)) rfl (by simp only; omega) (by
        have e1 : ((x.size : Int) - (t : Int)).toNat = q := by omega
        have e2 : (x.size : Int) - (t : Int) = (q : Int) := by omega
        simp [changed, e2]) (by rw [ByteArray.size_extract]; omega) (by rw [ByteArray.size_extract]; omega)
    unfold mends mendOps
    rw [htn, if_neg hz, one_get, doAll_ok hd]
    rfl
/-- The loads that a crash leaves: the sure ones, and some behind them. -/
theorem crash_rows {us vs : List (List UInt8)} (hu : fits us = true) (hv : fits vs = true) {M : Nat} (h0 : FP.sum us ≤ M) (h1 : M ≤ FP.sum (us ++ vs)) :
    ∃ k q, us.length ≤ k ∧ k ≤ (us ++ vs).length ∧ q = FP.sum ((us ++ vs).take k) ∧ FP.sum us ≤ q ∧ q ≤ M ∧ FP.torn (bytesOf ((str (FP.flat (us ++ vs))).extract 0 M)) = M - q ∧ ((str (FP.flat (us ++ vs))).extract 0 M).extract 0 q = str (FP.flat ((us ++ vs).take k)) := by
  have hf : fits (us ++ vs) = true := by
    rw [fits_all] at hu hv ⊢
    intro x hx
    rcases List.mem_append.1 hx with h | h
    · exact hu x h
    · exact hv x h
  obtain ⟨k, k1, k2, k3⟩ := cut_place (us ++ vs) M h1
  have hc := FP.rows_cut (fits_all.1 hf) k1 k2 k3 h1
  have hs : FP.sum ((us ++ vs).take us.length) = FP.sum us := by rw [List.take_left]
  have hku : us.length ≤ k := by
    rcases Nat.lt_or_ge k us.length with h | h
    · have h2 := k3 (by rw [List.length_append]; omega)
      have h3 := FP.sum_mono (us ++ vs) (show k + 1 ≤ us.length from h)
      omega
    · exact h
  have hsq := FP.sum_mono (us ++ vs) hku
  have e : bytesOf ((str (FP.flat (us ++ vs))).extract 0 M) = (FP.flat (us ++ vs)).take M := by rw [bytesOf_extract, bytesOf_str]; simp
  refine ⟨k, _, hku, k1, rfl, by omega, k2, by rw [e, hc.2], ?_⟩
  apply bytesOf_inj
  rw [bytesOf_extract, e, bytesOf_str]
  simp only [List.drop_zero, Nat.sub_zero]
  rw [List.take_take, Nat.min_eq_left k2, FP.flat_front]
end Go.Proofs.YtpppeadmhfggkaaDoor.DP
