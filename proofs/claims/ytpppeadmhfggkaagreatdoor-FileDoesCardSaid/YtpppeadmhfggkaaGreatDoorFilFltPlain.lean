/-
  A fault's three; a disk that goes down at an operation is as it was. No conditions.
-/
import Derived.Test.YtpppeadmhfggkaaGreatDoorFilG3
namespace Go.Proofs.YtpppeadmhfggkaaGreatDoor
open DP

def fltOp : Flt → Int
  | none => 0
  | some y => y.1
def fltFile : Flt → ByteArray
  | none => { data := #[] }
  | some y => y.2.1
def fltNum : Flt → Int
  | none => 0
  | some y => y.2.2
theorem done_no {d d' : Dk} {w : Wr} {e : Int} (h : done d w = (d', e)) : e = 0 ∨ e = 2 ∨ e = 3 ∨ e = 31 ∨ e = 32 := by
  have hs : e = (done d w).2 := by rw [h]
  rw [hs]
  unfold done
  by_cases h1 : get d.fs w.file = none ∧ w.b.size = 0
  · rw [if_pos h1]; omega
  rw [if_neg h1]
  have key (f : Fl) : (if (f.b.size : Int) < w.n then (noDisk, (2 : Int)) else if 64 < (put d.fs (changed f w)).length then (noDisk, 3) else if d.cap < (used (put d.fs (changed f w)) : Int) then (noDisk, 31) else ({ d with fs := put d.fs (changed f w), left := if 0 < d.left then d.left - 1 else d.left }, 0)).2 = 0 ∨
      (if (f.b.size : Int) < w.n then (noDisk, (2 : Int)) else if 64 < (put d.fs (changed f w)).length then (noDisk, 3) else if d.cap < (used (put d.fs (changed f w)) : Int) then (noDisk, 31) else ({ d with fs := put d.fs (changed f w), left := if 0 < d.left then d.left - 1 else d.left }, 0)).2 ∈ [2, 3, 31] := by
    by_cases h2 : (f.b.size : Int) < w.n
    · rw [if_pos h2]; simp
    rw [if_neg h2]
    by_cases h3 : 64 < (put d.fs (changed f w)).length
    · rw [if_pos h3]; simp
    rw [if_neg h3]
    by_cases h4 : d.cap < (used (put d.fs (changed f w)) : Int)
    · rw [if_pos h4]; simp
    rw [if_neg h4]
    simp
  rcases key { ((get d.fs w.file).getD noFile) with n := w.file } with h | h
  · exact .inl h
  · simp only [List.mem_cons, List.not_mem_nil, or_false] at h
    rcases h with h | h | h
    · exact .inr (.inl h)
    · exact .inr (.inr (.inl h))
    · exact .inr (.inr (.inr (.inl h)))
theorem done_num {d d' : Dk} {w : Wr} (h : done d w = (d', 30)) : False := by
  have := done_no h
  omega
theorem does_fall {d d' : Dk} {w : Wr} (h : does d w = (d', 30)) (hd : d.down = false) : d' = { d with down := true } := by
  unfold does at h
  split at h
  · simp only [Prod.mk.injEq] at h; omega
  · rw [hd] at h
    simp only [Bool.false_eq_true, if_false] at h
    split at h
    · simp only [Prod.mk.injEq] at h; exact h.1.symm
    · exact (done_num h).elim

end Go.Proofs.YtpppeadmhfggkaaGreatDoor
