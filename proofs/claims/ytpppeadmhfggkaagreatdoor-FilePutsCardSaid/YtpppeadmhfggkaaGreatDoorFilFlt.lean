/-
  What may go wrong with operations: which numbers, which files; the disk that comes stays small; the laws' told, whatever the fault. Conditions: those that each theorem names.
-/
import Derived.Test.YtpppeadmhfggkaaGreatDoorFilToldB
import Derived.Test.YtpppeadmhfggkaaGreatDoorFilFltPlain
namespace Go.Proofs.YtpppeadmhfggkaaGreatDoor
open Go.RowKit DP

theorem does_errNo {d d' : Dk} {w : Wr} {e : Int} (h : does d w = (d', e)) (h0 : e ≠ 0) : ErrNo e := by
  unfold does at h
  unfold ErrNo
  split at h
  · simp only [Prod.mk.injEq] at h; omega
  · split at h
    · simp only [Prod.mk.injEq] at h; omega
    · split at h
      · simp only [Prod.mk.injEq] at h; omega
      · have := done_no h
        omega
/-- A fault that may be: its number, its file. -/
def FltOk (x : Flt) : Prop := ∀ op file e, x = some (op, file, e) → ErrNo e ∧ file.size ≤ 1000
theorem FltOk.some {y : Wr} {e : Int} (he : ErrNo e) (hf : y.file.size ≤ 1000) : FltOk (some (y.op, y.file, e)) := by
  intro op file e' h
  simp only [Option.some.injEq, Prod.mk.injEq] at h
  obtain ⟨_, rfl, rfl⟩ := h
  exact ⟨he, hf⟩
/-- .. and what comes of operations. -/
theorem doAll_may {d d' : Dk} {l : List Wr} {x : Flt} (hd : Mild d) (hl : ∀ y ∈ l, y.file.size ≤ 1000) (h : doAll d l = (d', x)) : FltOk x ∧ d'.fs.length ≤ 100 := by
  induction l generalizing d with
  | nil =>
    rw [doAll_nil] at h
    simp only [Prod.mk.injEq] at h
    obtain ⟨rfl, rfl⟩ := h
    exact ⟨(by intro _ _ _ hh; cases hh), hd.1.1⟩
  | cons y r ih =>
    obtain ⟨d1, e, hdo⟩ : ∃ d1 e, does d y = (d1, e) := ⟨_, _, rfl⟩
    have hy := hl y (by simp)
    by_cases h0 : e = 0
    · subst h0
      rw [doAll_ok hdo] at h
      exact ih (fine_mild (mild_does hd hdo).2) (fun z hz => hl z (by simp [hz])) h
    · have he := does_errNo hdo h0
      by_cases h3 : e = 30 ∧ d.down = false
      · obtain ⟨rfl, h3⟩ := h3
        rw [doAll_fall hdo h3, does_fall hdo h3] at h
        simp only [Prod.mk.injEq] at h
        obtain ⟨rfl, rfl⟩ := h
        exact ⟨.some he hy, hd.1.1⟩
      · rw [doAll_no hdo h0 h3] at h
        simp only [Prod.mk.injEq] at h
        obtain ⟨rfl, rfl⟩ := h
        exact ⟨.some he hy, hd.1.1⟩
theorem told_any (ev : Value) (x : Flt) (w : World) (hG : Glob w) (h : FltV w ev x) (hx : FltOk x) :
    Calls Tryz.prog 11 #[ev, .int .i8 (fltOp x), .string (fltFile x), .int .i64 (fltNum x)] w fun r w' => r = .returned (.bool true) ∧ Below w.heap.size w w' := by
  cases x with
  | none =>
    obtain rfl : ev = .nilIface := h
    refine (told_none 0 { data := #[] } w).mono ?_
    rintro r w' ⟨rfl, rfl⟩
    exact ⟨rfl, Below.refl _ _⟩
  | some y =>
    obtain ⟨op, file, e⟩ := y
    obtain ⟨g, rfl, hf⟩ := h
    obtain ⟨he, hz⟩ := hx op file e rfl
    exact told_some g op file e w hG hf he hz
end Go.Proofs.YtpppeadmhfggkaaGreatDoor
