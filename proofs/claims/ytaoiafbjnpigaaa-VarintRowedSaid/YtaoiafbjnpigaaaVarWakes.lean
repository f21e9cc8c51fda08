/-
  The law's 'wakes': whatever the world, it returns true and turns nothing that was there. No conditions.
-/
import Derived.Test.YtaoiafbjnpigaaaVarWalkD
namespace Go.Proofs.Ytaoiafbjnpigaaa
open Go.RowKit

theorem enc300 : [] ++ VP.enc 300 = [172, 2] := by rw [VP.enc_great (by omega), VP.enc_small (by omega)]; rfl

theorem len_zero (w : World) : Calls Try.prog 14 #[.int .i64 0] w fun e w' => e = .returned (.int .i64 1) ∧ w = w' := by
  have h := len_yes 0 w (by omega)
  rw [VP.enc_small (by omega)] at h
  exact h

set_option maxRecDepth 100000 in
set_option maxHeartbeats 400000 in
theorem wakes_any (w : World) : Calls Try.prog 9 #[] w fun e w' => e = .returned (.bool true) ∧ Below w.heap.size w w' := by
  go_enter Try.func9, Try.ntmps9
  go_wp2_with fail
  refine (put_yes none 0 [] 300 w (Seen.nil _ _ _) (by simp) (by omega)).mono ?_
  rintro e w1 ⟨v1, rfl, hown1, hb1⟩
  obtain ⟨A1, c1, rfl, hs1, _⟩ := own_bytes hown1
  rw [enc300] at hs1 hown1 ⊢
  clear hown1
  go_wp2_with fail
  have hz1 := hb1.size
  refine (get_none _ 2 [128, 0] 0 _ ((Seen.new w1 (cells [128, 0]) 5).up (by simp)) (by simp) (by simp) (by simp) (by decide)).mono ?_
  rintro e w2 ⟨rfl, hb2⟩
  have hb2' : Below w1.heap.size w1 w2 := ((Below.refl _ _).alloc (Nat.le_refl _) _).trans (hb2.mono (by simp))
  have hz2 := hb2'.size
  have hs2 := hs1.below hb2'
  clear hs1 hb2
  go_wp2_with fail
  refine (get_some _ 3 [9, 172, 2] 1 300 2 _ ((Seen.new w2 (cells [9, 172, 2]) 5).up (by simp)) (by simp) (by simp) (by simp) (by decide)).mono ?_
  rintro e w3 ⟨rfl, hb3⟩
  have hb3' : Below w2.heap.size w2 w3 := ((Below.refl _ _).alloc (Nat.le_refl _) _).trans (hb3.mono (by simp))
  have hz3 := hb3'.size
  have hs3 := hs2.below (hb3'.mono hz2)
  have hstr : (convert 22 9 (.slice A1 2 c1)).run Try.prog w3 = .ok (.string ⟨#[172, 2]⟩) w3 := run_str (P := Try.prog) hs3 22 9 5 c1 Try.underlying22 Try.underlying5 Try.underlying9
  clear hs2 hs3 hb3
  go_wp2_with (go_at_call 14; refine (len_zero _).mono ?_; rintro e w' ⟨rfl, rfl⟩)
  go_ret
  exact ⟨rfl, (hb1.trans (hb2'.mono hz1)).trans (hb3'.mono (by omega))⟩
end Go.Proofs.Ytaoiafbjnpigaaa
