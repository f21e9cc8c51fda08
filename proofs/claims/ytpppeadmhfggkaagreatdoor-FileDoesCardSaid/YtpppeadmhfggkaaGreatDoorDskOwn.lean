/-
  Contracts of slices.Clone at files and of own: what each returns and what it does to memory. Conditions: those that each theorem names.
-/
import Derived.Test.YtpppeadmhfggkaaGreatDoorFilG2
import Derived.Test.YtpppeadmhfggkaaGreatDoorDskCheck
namespace Go.Proofs.YtpppeadmhfggkaaGreatDoor
open Go.RowKit DP

def ClonePost (n : Nat) (fs : List Fl) (w : World) (e : Ending) (w' : World) : Prop :=
  ∃ A' c', e = .returned (.slice A' n c') ∧ w'.ownsRow w.heap.size 48 3 (.slice A' n c') n (fcells fs) ∧ Below w.heap.size w w'

set_option maxRecDepth 100000 in
set_option maxHeartbeats 400000 in
theorem clone_any (A : Option Addr) (n c B : Nat) (fs : List Fl) (w : World) (hn : fs.length = n) (hs : Seen w B A (fcells fs)) (hB : B ≤ w.heap.size) (h100 : n ≤ 100) :
    Calls Tryz.prog 22 #[.slice A n c] w (ClonePost n fs w) := by
  have hl : (fcells fs).length = n * 3 := by rw [fcells_length, hn]
  have HL := Lib.hid hl
  cases A with
  | none =>
    have h0 : fcells fs = [] := by
      by_cases h : fcells fs = []
      · exact h
      · obtain ⟨b, off, he, _⟩ := hs h
        cases he
    have hn0 : n = 0 := by rw [h0] at hl; simp at hl; omega
    have H0 := Lib.hid h0
    have HN0 := Lib.hid hn0
    clear hl hn h0 hn0
    have hnil := fun W => Lib.run_eql_slice_nil (P := Tryz.prog) W 22 48 none n c 0 0 Tryz.underlying22
    go_enter Tryz.func22, Tryz.ntmps22
    go_wp2
    go_ret
    have e0 := HN0.out
    subst e0
    exact ⟨none, 0, rfl, by rw [H0.out]; exact World.ownsRow_nil _ _ _ _, Below.refl _ _⟩
  | some a =>
    clear hl hn
    have hnil := fun W => Lib.run_eql_slice_nil (P := Tryz.prog) W 22 48 (some a) n c 0 0 Tryz.underlying22
    have h1 := fcells_one fs
    go_enter Tryz.func22, Tryz.ntmps22
    go_wp2_with (at_builtin; refine wpList_append_own3 rfl (.tmp 5) (.tmp 6) rfl (base := w.heap.size) (B2 := B) (A2 := some a) (n := 0) (m := n) (c := c) (xs := []) (news := fcells fs) rfl rfl (World.ownsRow_made w #[] 0 (Nat.le_refl _) (Nat.zero_le _) rfl) HL.out h1 ?d1 ?d2 ?d3 ?_)
    case d1 => exact hs.below ((Below.refl _ _).alloc hB _)
    case d2 => simp
    case d3 => omega
    intro A' c' w' hown hb
    go_wp2
    go_ret
    exact ⟨A', c', rfl, hown, ((Below.refl _ _).alloc (Nat.le_refl _) _).trans hb⟩

/-- A disk as a value. -/
def OwnPost (n : Nat) (fs : List Fl) (cap left : Int) (down : Bool) (w : World) (e : Ending) (w' : World) : Prop :=
  ∃ A' c', e = .returned (.tuple #[.agg #[.slice A' n c', .int .i64 cap, .int .i64 left, .bool down], .int .i64 0]) ∧ w'.ownsRow w.heap.size 48 3 (.slice A' n c') n (fcells fs) ∧ Below w.heap.size w w'
def NoDisk (r : Int) (w : World) (e : Ending) (w' : World) : Prop :=
  e = .returned (.tuple #[.agg #[.slice none 0 0, .int .i64 0, .int .i64 0, .bool false], .int .i64 r]) ∧ Below w.heap.size w w'

set_option maxRecDepth 100000 in
set_option maxHeartbeats 400000 in
theorem own_yes (A : Option Addr) (n c B : Nat) (fs : List Fl) (cap left : Int) (down : Bool) (w : World) (hn : fs.length = n) (hc : check ⟨fs, cap, left, down⟩ = true) (hs : Seen w B A (fcells fs)) (hB : B ≤ w.heap.size) :
    Calls Tryz.prog 56 #[.agg #[.slice A n c, .int .i64 cap, .int .i64 left, .bool down]] w (OwnPost n fs cap left down w) := by
  have hsm := check_small hc
  have hr : code (check ⟨fs, cap, left, down⟩) = 0 := by rw [hc]; rfl
  have hn100 : n ≤ 100 := by rw [← hn]; exact hsm.1
  have HN := Lib.hid hn
  have HR := Lib.hid hr
  clear hc hn hr
  go_enter Tryz.func56, Tryz.ntmps56
  go_wp2_with (go_at_call 71; refine (check_any A n c B fs cap left down 0 _ HN.out HR.out (hs.below (((Below.refl _ _).alloc hB _).alloc (by simp; omega) _)) (by simp; omega) hsm).mono ?_; rintro e w1 ⟨rfl, hb1⟩; obtain ⟨hc1, hf1⟩ := bcell hb1)
  have hb2 : Below w.heap.size w w1 := (((Below.refl _ _).alloc (Nat.le_refl _) _).alloc (by simp) _).trans (hb1.mono (by simp; omega))
  have hz1 : w.heap.size + 2 ≤ w1.heap.size := by have := hb1.size; simp at this; omega
  refine (clone_any A n c B fs _ HN.out (hs.below (hb2.mono hB)) (by omega) hn100).mono ?_
  rintro e w2 ⟨A', c', rfl, hown, hb3⟩
  have hz2 := hb3.size
  have v1 : Var w2 w.heap.size 24 #[.slice A n c, .int .i64 cap, .int .i64 left, .bool down] := Var.below (Var.below (Var.alloc (Var.new w _ _) _) hb1 (by simp; omega)) hb3 (by omega)
  have v2 : Var w2 (w.heap.size + 1) 24 #[.slice none 0 0, .int .i64 0, .int .i64 0, .bool false] := by
    have := Var.below (Var.below (Var.new (w.alloc (.cells #[.slice A n c, .int .i64 cap, .int .i64 left, .bool down] 24)) #[.slice none 0 0, .int .i64 0, .int .i64 0, .bool false] 24) hb1 (by simp)) hb3 (by simp; omega)
    simpa only [World.size_alloc] using this
  obtain ⟨d0, d1, d2, d3, f1⟩ := v1.cells4
  obtain ⟨e0, e1, e2, e3, f2⟩ := v2.cells4
  have hb4 : Below w.heap.size w w2 := hb2.trans (hb3.mono (by omega))
  have hlow : ∀ g, (Value.slice A' n c').ownBlock = some g → w1.heap.size ≤ g := fun g hg => (hown.lt g hg).1
  clear hc1 hf1 hb1
  go_wp2
  refine bodyPost_ret (v := .tuple #[.agg #[.slice A' n c', .int .i64 cap, .int .i64 left, .bool down], .int .i64 0]) (by simp [results, Tryz.results56, go_sem, e0, e1, e2, e3]) rfl ⟨A', c', rfl, ?_, ?_⟩
  · refine own_mono (base := w1.heap.size) ?_ (by omega)
    repeat (first | with_reducible exact hown | refine own_set ?_ (by simp; omega) _)
  · repeat (first | with_reducible exact hb4 | refine Below.setCell ?_ (by simp) _)

set_option maxRecDepth 100000 in
set_option maxHeartbeats 400000 in
theorem own_no (A : Option Addr) (n c B : Nat) (fs : List Fl) (cap left : Int) (down : Bool) (w : World) (hn : fs.length = n) (hc : check ⟨fs, cap, left, down⟩ = false) (hsm : Small fs) (hs : Seen w B A (fcells fs)) (hB : B ≤ w.heap.size) :
    Calls Tryz.prog 56 #[.agg #[.slice A n c, .int .i64 cap, .int .i64 left, .bool down]] w (NoDisk 2 w) := by
  have hr : code (check ⟨fs, cap, left, down⟩) = 2 := by rw [hc]; rfl
  have HN := Lib.hid hn
  have HR := Lib.hid hr
  clear hc hn hr
  go_enter Tryz.func56, Tryz.ntmps56
  go_wp2_with (go_at_call 71; refine (check_any A n c B fs cap left down 2 _ HN.out HR.out (hs.below (((Below.refl _ _).alloc hB _).alloc (by simp; omega) _)) (by simp; omega) hsm).mono ?_; rintro e w1 ⟨rfl, hb1⟩; have hz1 := hb1.size; have v2 : Var w1 (w.heap.size + 1) 24 #[.slice none 0 0, .int .i64 0, .int .i64 0, .bool false] := (by have := Var.below (Var.new (w.alloc (.cells #[.slice A n c, .int .i64 cap, .int .i64 left, .bool down] 24)) #[.slice none 0 0, .int .i64 0, .int .i64 0, .bool false] 24) hb1 (by simp); simpa only [World.size_alloc] using this); obtain ⟨e0, e1, e2, e3, f2⟩ := v2.cells4)
  have hb2 : Below w.heap.size w w1 := (((Below.refl _ _).alloc (Nat.le_refl _) _).alloc (by simp) _).trans (hb1.mono (by simp; omega))
  refine bodyPost_ret (v := .tuple #[.agg #[.slice none 0 0, .int .i64 0, .int .i64 0, .bool false], .int .i64 2]) (by simp [results, Tryz.results56, go_sem, e0, e1, e2, e3]) rfl ⟨rfl, ?_⟩
  repeat (first | with_reducible exact hb2 | refine Below.setCell ?_ (by simp) _)

end Go.Proofs.YtpppeadmhfggkaaGreatDoor
