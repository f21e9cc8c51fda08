/-
  The law FileCrash: its walk. Conditions: those that each theorem names.
-/
import Derived.Test.YtpppeadmhfggkaaDoorFilCrashPlain
import Derived.Test.YtpppeadmhfggkaaDoorFilTexts
import Derived.Test.YtpppeadmhfggkaaDoorFilCutWalk
import Derived.Test.YtpppeadmhfggkaaDoorDskCrash
namespace Go.Proofs.YtpppeadmhfggkaaDoor
open Go.RowKit DP

/-- A row of loads that came in, not too great. -/
structure Rw (A : Option Addr) (n : Nat) (ls : List (List UInt8)) (w : World) : Prop where
  len : n = ls.length
  seen : Seen w w.heap.size A (strs ls)
  max : n ≤ 9223372036854775807
  size : ∀ x ∈ ls, x.length ≤ 9223372036854775807
theorem Rw.hundred {n : Nat} (h : ¬ 100 < n) : decide ((100 : Int) < (n : Int)) = false := decide_eq_false (by omega)

section
variable (A1 A2 A3 : Option Addr) (n1 c1 n2 c2 n3 c3 : Nat) (keep : Int) (us vs xs : List (List UInt8)) (w : World)

set_option maxRecDepth 100000 in
set_option maxHeartbeats 1000000 in
/-- The ways on which the law asks wakes at once. -/
theorem crash_great (r1 : Rw A1 n1 us w) (r2 : Rw A2 n2 vs w) (r3 : Rw A3 n3 xs w) (hG : Glob w) (hgr : 100 < n1 ∨ 100 < n2 ∨ 100 < n3 ∨ greatL us = true ∨ greatL vs = true ∨ greatL xs = true) :
    Calls Tryd.prog 4 #[.slice A1 n1 c1, .slice A2 n2 c2, .slice A3 n3 c3, .int .i64 keep] w fun e w' => e = .returned (.bool true) ∧ Below w.heap.size w w' := by
  have HG := Lib.hid hG
  have R1 := Lib.hid r1
  have R2 := Lib.hid r2
  have R3 := Lib.hid r3
  clear hG r1 r2 r3
  by_cases h1 : 100 < n1
  · clear hgr
    go_enter Tryd.func4, Tryd.ntmps4
    go_wp2_with fail
    refine (wakes_any _ HG.out).mono ?_
    rintro e w2 ⟨rfl, hb2⟩
    go_wp2
    go_ret
    exact ⟨rfl, hb2⟩
  have d1 := Rw.hundred h1
  by_cases h2 : 100 < n2
  · clear hgr h1
    go_enter Tryd.func4, Tryd.ntmps4
    go_wp2_with fail
    refine (wakes_any _ HG.out).mono ?_
    rintro e w2 ⟨rfl, hb2⟩
    go_wp2
    go_ret
    exact ⟨rfl, hb2⟩
  have d2 := Rw.hundred h2
  by_cases h3 : 100 < n3
  · clear hgr h1 h2
    go_enter Tryd.func4, Tryd.ntmps4
    go_wp2_with fail
    refine (wakes_any _ HG.out).mono ?_
    rintro e w2 ⟨rfl, hb2⟩
    go_wp2
    go_ret
    exact ⟨rfl, hb2⟩
  have d3 := Rw.hundred h3
  have hgr' := ((hgr.resolve_left h1).resolve_left h2).resolve_left h3
  clear hgr h1 h2 h3
  cases g1 : greatL us with
  | true =>
    have G1 := Lib.hid g1
    clear g1 hgr'
    go_enter Tryd.func4, Tryd.ntmps4
    go_wp2_with fail
    refine (greatL_any A1 n1 c1 w.heap.size us true _ R1.out.len G1.out R1.out.seen R1.out.max R1.out.size).mono ?_
    rintro e w1 ⟨rfl, rfl⟩
    go_wp2_with fail
    refine (wakes_any _ HG.out).mono ?_
    rintro e w2 ⟨rfl, hb2⟩
    go_wp2
    go_ret
    exact ⟨rfl, hb2⟩
  | false =>
    have G1 := Lib.hid g1
    cases g2 : greatL vs with
    | true =>
      have G2 := Lib.hid g2
      clear g1 g2 hgr'
      go_enter Tryd.func4, Tryd.ntmps4
      go_wp2_with fail
      refine (greatL_any A1 n1 c1 w.heap.size us false _ R1.out.len G1.out R1.out.seen R1.out.max R1.out.size).mono ?_
      rintro e w1 ⟨rfl, rfl⟩
      go_wp2_with fail
      refine (greatL_any A2 n2 c2 w.heap.size vs true _ R2.out.len G2.out R2.out.seen R2.out.max R2.out.size).mono ?_
      rintro e w1 ⟨rfl, rfl⟩
      go_wp2_with fail
      refine (wakes_any _ HG.out).mono ?_
      rintro e w2 ⟨rfl, hb2⟩
      go_wp2
      go_ret
      exact ⟨rfl, hb2⟩
    | false =>
      have G2 := Lib.hid g2
      have G3 : Hid (greatL xs = true) := by
        show _
        rcases hgr' with h | h | h
        · rw [g1] at h; cases h
        · rw [g2] at h; cases h
        · exact h
      clear g1 g2 hgr'
      go_enter Tryd.func4, Tryd.ntmps4
      go_wp2_with fail
      refine (greatL_any A1 n1 c1 w.heap.size us false _ R1.out.len G1.out R1.out.seen R1.out.max R1.out.size).mono ?_
      rintro e w1 ⟨rfl, rfl⟩
      go_wp2_with fail
      refine (greatL_any A2 n2 c2 w.heap.size vs false _ R2.out.len G2.out R2.out.seen R2.out.max R2.out.size).mono ?_
      rintro e w1 ⟨rfl, rfl⟩
      go_wp2_with fail
      refine (greatL_any A3 n3 c3 w.heap.size xs true _ R3.out.len G3.out R3.out.seen R3.out.max R3.out.size).mono ?_
      rintro e w1 ⟨rfl, rfl⟩
      go_wp2_with fail
      refine (wakes_any _ HG.out).mono ?_
      rintro e w2 ⟨rfl, hb2⟩
      go_wp2
      go_ret
      exact ⟨rfl, hb2⟩

/-- What holds behind the law's first test. -/
structure Crs (w : World) : Prop where
  r1 : Rw A1 n1 us w
  r2 : Rw A2 n2 vs w
  r3 : Rw A3 n3 xs w
  h1 : n1 ≤ 100
  h2 : n2 ≤ 100
  h3 : n3 ≤ 100
  g1 : greatL us = false
  g2 : greatL vs = false
  g3 : greatL xs = false
  glob : Glob w
end
end Go.Proofs.YtpppeadmhfggkaaDoor
