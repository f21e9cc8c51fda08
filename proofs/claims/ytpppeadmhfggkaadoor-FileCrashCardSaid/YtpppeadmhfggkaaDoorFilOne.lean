/-
  A disk of one file "a": what an operation makes of it; a file that is cut anywhere (no program). No conditions.
-/
import Derived.Test.YtpppeadmhfggkaaDoorFilWakes
namespace Go.Proofs.YtpppeadmhfggkaaDoor.DP
open Go.RowKit

section
variable {cap : Int} {b b' : ByteArray} {s s' : Int} {w : Wr}
theorem one_check (h : 0 < b.size) (h' : (b.size : Int) ≤ cap) (hc : cap ≤ 65536) (h0 : 0 ≤ s) (h1 : s ≤ b.size) : check ⟨[⟨wkA, b, s⟩], cap, -1, false⟩ = true := by
  apply check_mk
  · simp
  · simp only; omega
  · exact hc
  · simp [used]; omega
  · simp only [rises, Bool.and_true, Bool.and_eq_true]
    exact ⟨okFl_mk wk_a h h0 h1, ltS_none (by decide)⟩
theorem none_check (h0 : 0 ≤ cap) (hc : cap ≤ 65536) : check ⟨[], cap, -1, false⟩ = true := check_mk (by simp) h0 hc (by simp [used]; omega) (by rfl)
theorem one_does (h : 0 < b.size) (h' : (b.size : Int) ≤ cap) (hc : cap ≤ 65536) (h0 : 0 ≤ s) (h1 : s ≤ b.size) (hop : isOp w = true) (hf : w.file = wkA) (hk : w.n ≤ b.size) (hch : changed ⟨wkA, b, s⟩ w = ⟨wkA, b', s'⟩) (hb' : 0 < b'.size) (hb2 : (b'.size : Int) ≤ cap) :
    does ⟨[⟨wkA, b, s⟩], cap, -1, false⟩ w = (⟨[⟨wkA, b', s'⟩], cap, -1, false⟩, 0) := by
  have hcc := one_check h h' hc h0 h1
  unfold does
  rw [if_neg (by rw [hcc, hop]; simp), if_neg (by simp), if_neg (by simp)]
  unfold done
  simp only [hf, wk_get, Option.getD_some]
  rw [if_neg (by simp), if_neg (by omega), hch, wk_put _ _ _ _ hb']
  simp [used]
  omega
theorem one_full (h : 0 < b.size) (h' : (b.size : Int) ≤ cap) (hc : cap ≤ 65536) (h0 : 0 ≤ s) (h1 : s ≤ b.size) (hop : isOp w = true) (hf : w.file = wkA) (hk : w.n ≤ b.size) (hch : changed ⟨wkA, b, s⟩ w = ⟨wkA, b', s'⟩) (hb2 : cap < (b'.size : Int)) :
    does ⟨[⟨wkA, b, s⟩], cap, -1, false⟩ w = (noDisk, 31) := by
  have hcc := one_check h h' hc h0 h1
  have hb' : 0 < b'.size := by omega
  unfold does
  rw [if_neg (by rw [hcc, hop]; simp), if_neg (by simp), if_neg (by simp)]
  unfold done
  simp only [hf, wk_get, Option.getD_some]
  rw [if_neg (by simp), if_neg (by omega), hch, wk_put _ _ _ _ hb']
  simp [used]
  omega
theorem none_does (h0 : 0 ≤ cap) (hc : cap ≤ 65536) (hop : isOp w = true) (hf : w.file = wkA) (hwb : 0 < w.b.size) (hk : w.n = 0) (hch : changed ⟨wkA, none_, 0⟩ w = ⟨wkA, b', s'⟩) (hb' : 0 < b'.size) (hb2 : (b'.size : Int) ≤ cap) :
    does ⟨[], cap, -1, false⟩ w = (⟨[⟨wkA, b', s'⟩], cap, -1, false⟩, 0) := by
  have hcc := none_check h0 hc
  unfold does
  rw [if_neg (by rw [hcc, hop]; simp), if_neg (by simp), if_neg (by simp)]
  unfold done
  have hg : get [] w.file = none := rfl
  simp only [hf] at hch ⊢
  have hg' : get [] wkA = none := rfl
  have hn : ({ noFile with n := wkA } : Fl) = ⟨wkA, none_, 0⟩ := rfl
  rw [hg', if_neg (by omega)]
  simp only [Option.getD_none, hn]
  rw [if_neg (by show ¬ ((0 : Nat) : Int) < _; omega), hch]
  have hp : put [] (⟨wkA, b', s'⟩ : Fl) = [⟨wkA, b', s'⟩] := by
    unfold put opt
    rw [if_neg (by simp only; omega)]
    rfl
  rw [hp]
  simp [used]
  omega
theorem none_full (h0 : 0 ≤ cap) (hc : cap ≤ 65536) (hop : isOp w = true) (hf : w.file = wkA) (hwb : 0 < w.b.size) (hk : w.n = 0) (hch : changed ⟨wkA, none_, 0⟩ w = ⟨wkA, b', s'⟩) (hb2 : cap < (b'.size : Int)) :
    does ⟨[], cap, -1, false⟩ w = (noDisk, 31) := by
  have hcc := none_check h0 hc
  have hb' : 0 < b'.size := by omega
  unfold does
  rw [if_neg (by rw [hcc, hop]; simp), if_neg (by simp), if_neg (by simp)]
  unfold done
  have hg : get [] w.file = none := rfl
  simp only [hf] at hch ⊢
  have hg' : get [] wkA = none := rfl
  have hn : ({ noFile with n := wkA } : Fl) = ⟨wkA, none_, 0⟩ := rfl
  rw [hg', if_neg (by omega)]
  simp only [Option.getD_none, hn]
  rw [if_neg (by show ¬ ((0 : Nat) : Int) < _; omega), hch]
  have hp : put [] (⟨wkA, b', s'⟩ : Fl) = [⟨wkA, b', s'⟩] := by
    unfold put opt
    rw [if_neg (by simp only; omega)]
    rfl
  rw [hp]
  simp [used]
  omega
end
theorem one_get (cap left : Int) (down : Bool) (b : ByteArray) (s : Int) : bytesIn ⟨[⟨wkA, b, s⟩], cap, left, down⟩ wkA = b := by
  unfold bytesIn
  simp only [wk_get, Option.getD_some]

theorem isOp_app {x : ByteArray} (h : 0 < x.size) : isOp ⟨0, wkA, x, 0⟩ = true := by simp [isOp, wk_a]; omega
theorem isOp_rep {x : ByteArray} (h : 0 < x.size) : isOp ⟨2, wkA, x, 0⟩ = true := by simp [isOp, wk_a]; omega
theorem isOp_sync : isOp ⟨1, wkA, none_, 0⟩ = true := by decide
theorem isOp_cut {k : Int} (h : 0 ≤ k) : isOp ⟨3, wkA, none_, k⟩ = true := by
  have : none_.size = 0 := rfl
  simp [isOp, wk_a, this]
  exact h

/-! ### a file that is cut anywhere -/
theorem cut_place : ∀ (ls : List (List UInt8)) (cut : Nat), cut ≤ FP.sum ls → ∃ k, k ≤ ls.length ∧ FP.sum (ls.take k) ≤ cut ∧ (k < ls.length → cut < FP.sum (ls.take (k + 1))) := by
  intro ls
  induction ls with
  | nil => intro cut h; exact ⟨0, Nat.le_refl _, Nat.zero_le _, fun h => absurd h (by simp)⟩
  | cons x r ih =>
    intro cut h
    simp only [FP.sum] at h
    rcases Nat.lt_or_ge cut (4 + x.length) with hc | hc
    · refine ⟨0, Nat.zero_le _, Nat.zero_le _, fun _ => ?_⟩
      simp only [Nat.zero_add, List.take_succ_cons, List.take_zero, FP.sum]
      omega
    · obtain ⟨k, h1, h2, h3⟩ := ih (cut - (4 + x.length)) (by omega)
      refine ⟨k + 1, by simpa using h1, by simp only [List.take_succ_cons, FP.sum]; omega, fun hk => ?_⟩
      have := h3 (by simpa using hk)
      simp only [List.take_succ_cons, FP.sum] at this ⊢
      omega
theorem cut_rows {ls : List (List UInt8)} (hf : fits ls = true) {N : Nat} (h : N ≤ FP.sum ls) :
    ∃ k, k ≤ ls.length ∧ FP.sum (ls.take k) ≤ N ∧ FP.rows (bytesOf ((str (FP.flat ls)).extract 0 N)) = ls.take k ∧ FP.torn (bytesOf ((str (FP.flat ls)).extract 0 N)) = N - FP.sum (ls.take k) := by
  obtain ⟨k, h1, h2, h3⟩ := cut_place ls N h
  have hc := FP.rows_cut (fits_all.1 hf) h1 h2 h3 h
  have e : bytesOf ((str (FP.flat ls)).extract 0 N) = (FP.flat ls).take N := by rw [bytesOf_extract, bytesOf_str]; simp
  rw [e]
  exact ⟨k, h1, h2, hc.1, hc.2⟩
theorem wrap_fits {x : Int} (h0 : 0 ≤ x) (h1 : x ≤ 9223372036854775807) : wrap64 x = x := by unfold wrap64; omega
theorem sum_cut {a t N q : Nat} (h1 : a = q) (h2 : t = N - q) (h3 : q ≤ N) (h4 : ¬ 0 < t) : N = a := by omega
theorem cut_mod (a : Int) (n : Nat) (hn : n ≤ 1000000) : ∃ N : Nat, (wrap64 (a.tmod ((n : Int) + 1) + ((n : Int) + 1))).tmod ((n : Int) + 1) = (N : Int) ∧ N ≤ n := by
  have hp : (0 : Int) < (n : Int) + 1 := by omega
  have h1 := Int.tmod_lt_of_pos a hp
  have h2 := Int.lt_tmod_of_pos a hp
  obtain ⟨r, hr⟩ : ∃ r, r = a.tmod ((n : Int) + 1) := ⟨_, rfl⟩
  rw [← hr] at h1 h2 ⊢
  have e1 : wrap64 (r + ((n : Int) + 1)) = r + ((n : Int) + 1) := by unfold wrap64; omega
  rw [e1]
  have h3 := Int.tmod_lt_of_pos (r + ((n : Int) + 1)) hp
  have h4 : 0 ≤ (r + ((n : Int) + 1)).tmod ((n : Int) + 1) := Int.tmod_nonneg _ (by omega)
  exact ⟨((r + ((n : Int) + 1)).tmod ((n : Int) + 1)).toNat, by omega, by omega⟩
end Go.Proofs.YtpppeadmhfggkaaDoor.DP
