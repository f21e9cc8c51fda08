/-
  Contracts of request's Changes and of the law's 'wakes'. Conditions: those that each theorem names.
-/
import Derived.Test.YtfcifblbapadpaaGreatDoorReqBytes
namespace Go.Proofs.YtfcifblbapadpaaGreatDoor
open Go.RowKit

def Asks (k : Int) : Prop := k < 0 ∨ 9 < k ∨ k = 5 ∨ k = 7
theorem changes_any (k : Int) (b : Bool) (w : World) (hb : b = true ↔ ¬ Asks k) : Calls Tryz.prog 9 #[.int .i8 k] w fun e w' => e = .returned (.bool b) ∧ w = w' := by
  have HB := Lib.hid hb
  clear hb
  unfold Asks at HB
  by_cases h1 : 0 ≤ k
  · have d1 : decide (0 ≤ k) = true := decide_eq_true h1
    by_cases h2 : k ≤ 9
    · have d2 : decide (k ≤ 9) = true := decide_eq_true h2
      by_cases h3 : k = 5
      · subst h3
        obtain rfl : b = false := bool_off HB.out (by omega)
        clear HB
        go_enter Tryz.func9, Tryz.ntmps9
        go_wp2
        go_ret
        exact ⟨rfl, rfl⟩
      · have d3 : (k != 5) = true := by simp [h3]
        by_cases h4 : k = 7
        · subst h4
          obtain rfl : b = false := bool_off HB.out (by omega)
          clear HB
          go_enter Tryz.func9, Tryz.ntmps9
          go_wp2
          go_ret
          exact ⟨rfl, rfl⟩
        · have d4 : (k != 7) = true := by simp [h4]
          obtain rfl : b = true := HB.out.2 (by omega)
          clear HB
          go_enter Tryz.func9, Tryz.ntmps9
          go_wp2
          go_ret
          exact ⟨rfl, rfl⟩
    · have d2 : decide (k ≤ 9) = false := decide_eq_false h2
      obtain rfl : b = false := bool_off HB.out (by omega)
      clear HB
      go_enter Tryz.func9, Tryz.ntmps9
      go_wp2
      go_ret
      exact ⟨rfl, rfl⟩
  · have d1 : decide (0 ≤ k) = false := decide_eq_false h1
    obtain rfl : b = false := bool_off HB.out (by omega)
    clear HB
    go_enter Tryz.func9, Tryz.ntmps9
    go_wp2
    go_ret
    exact ⟨rfl, rfl⟩

def wkR : Rq := ⟨5, 0, 0, 0, 0, 1, 0, 0, 5, true, noBt⟩
theorem wk_y : YIs wkR [5, 1, 0, 5, 1] 0 := by
  have h : Rq.enc wkR = [5, 1, 0, 5, 1] := by
    have hf : fdsOf 5 = [.part, .off, .most, .yes] := by simp [fdsOf]
    show VP.enc (5 : Int).toNat ++ encFs wkR (fdsOf 5) = _
    rw [hf]
    simp only [encFs, List.flatMap_cons, List.flatMap_nil, Rq.encF, wkR]
    rw [show (5 : Int).toNat = 5 from rfl, show (1 : Int).toNat = 1 from rfl, show (0 : Int).toNat = 0 from rfl, VP.enc_small (by decide), VP.enc_small (by decide), VP.enc_small (by decide)]
    rfl
  refine .inl ⟨⟨⟨by simp [wkR], by simp [wkR]⟩, ?_, ?_⟩, h.symm, rfl⟩
  · show ∀ f ∈ fdsOf 5, _
    rw [show fdsOf 5 = [.part, .off, .most, .yes] by simp [fdsOf]]
    intro f hf
    simp only [List.mem_cons, List.not_mem_nil, or_false] at hf
    rcases hf with rfl | rfl | rfl | rfl <;> simp [Rq.Ok, Between, Fd.lo, Fd.hi, wkR]
  · unfold Rq.bare
    rw [show fdsOf (Rq.kind wkR) = [.part, .off, .most, .yes] by simp [fdsOf, wkR]]
    rfl

set_option maxRecDepth 100000 in
set_option maxHeartbeats 1000000 in
theorem qwakes_any (w : World) : Calls Tryz.prog 4 #[] w fun e w' => e = .returned (.bool true) ∧ Below w.heap.size w w' := by
  have e1 : (({ data := #[5, 1, 0, 5, 1] } : ByteArray) == { data := #[5, 1, 0, 5, 1] }) = true := by decide
  go_enter Tryz.func4, Tryz.ntmps4
  go_wp2_with fail
  refine (qbytes_any wkR none 0 0 0 _ 0 w (bare_qin _ _ rfl) (Nat.zero_le _) ⟨by simp [wkR], by simp [wkR]⟩ wk_y).mono ?_
  rintro e W1 ⟨b1, A1, c1, l1, rfl, hl1, hs1, hc1⟩
  have hst := str_after hs1 22 9 5 l1 c1 hl1 Tryz.underlying22 Tryz.underlying5 Tryz.underlying9
  have hst1 := hst ⟨W1, Below.refl _ _⟩
  clear hs1 hl1 hst
  go_wp2_with fail
  refine (changes_any 9 true W1 (by simp [Asks])).mono ?_
  rintro e w2 ⟨rfl, rfl⟩
  go_wp2_with fail
  refine (changes_any 7 false _ (by simp [Asks])).mono ?_
  rintro e w2 ⟨rfl, rfl⟩
  clear hst1
  go_wp2
  go_ret
  exact ⟨rfl, b1⟩
end Go.Proofs.YtfcifblbapadpaaGreatDoor
