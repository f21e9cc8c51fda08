/-
  The law's 'wakes' of fields: whatever the world, it returns true and turns nothing that was there. No conditions.
-/
import Derived.Test.YtkeekecaojpkjaaFldWrite
namespace Go.Proofs.Ytkeekecaojpkjaa
open Go.RowKit

theorem wakes_put : TextPut [] ⟨#[97, 98]⟩ [2, 97, 98] 0 := .inl ⟨by decide, by rw [show (⟨#[97, 98]⟩ : ByteArray).size = 2 from rfl, VP.enc_small (by decide)]; rfl, rfl⟩
theorem wakes_text : TextIs ⟨#[2, 97, 98, 1]⟩ 0 false 9 ⟨#[97, 98]⟩ 3 false := .inl ⟨rfl, 2, 1, by decide, by decide, by decide, by rw [extract_is]; rfl, rfl, rfl⟩
theorem wakes_flag : FlagIs ⟨#[2, 97, 98, 1]⟩ 3 false true 4 false := .inl ⟨rfl, rfl, rfl, rfl⟩
theorem wakes_end : EndIs ⟨#[2, 97, 98, 1]⟩ 4 false 0 := .inl ⟨rfl, rfl, rfl⟩

set_option maxRecDepth 100000 in
set_option maxHeartbeats 400000 in
theorem wakes_any (w : World) : Calls Try.prog 6 #[] w fun e w' => e = .returned (.bool true) ∧ Below w.heap.size w w' := by
  go_enter Try.func6, Try.ntmps6
  go_wp2_with fail
  refine (text_put none 0 [] 0 ⟨#[97, 98]⟩ [2, 97, 98] 0 3 _ wakes_put rfl rfl (Seen.nil _ _ _) (by omega)).mono ?_
  rintro e w1 ⟨A1, c1, rfl, hs1, _, hb1⟩
  go_wp2_with fail
  refine (new_any _ _).mono ?_
  rintro e w2 ⟨rfl, hr2, hb2⟩
  have hs2 := hs1.below hb2
  have hstr : (convert 22 9 (.slice A1 3 c1)).run Try.prog w2 = .ok (.string ⟨#[2, 97, 98]⟩) w2 := run_str (P := Try.prog) hs2 22 9 5 c1 Try.underlying22 Try.underlying5 Try.underlying9
  have hz1 := hb1.size
  clear hs1 hs2
  go_wp2_with fail
  refine (text_all w1.heap.size _ 0 false 9 _ 3 false _ wakes_text hr2 (by decide) (by omega)).mono ?_
  rintro e w3 ⟨rfl, hr3, hk3⟩
  clear hstr
  go_wp2_with fail
  refine (flag_all w1.heap.size _ 3 false true 4 false _ wakes_flag hr3 (by decide)).mono ?_
  rintro e w4 ⟨rfl, hr4, hk4⟩
  go_wp2_with fail
  refine (end_all w1.heap.size _ 4 false 0 _ wakes_end hr4).mono ?_
  rintro e w5 ⟨rfl, q, rfl⟩
  have hb : Below w.heap.size w (w4.drewN q) := ((hb1.trans (hb2.mono hz1)).trans ((hk3.trans hk4).below (by have := hb2.size; omega) (by intro x hx; simp at hx; omega))).drewN' q
  go_wp2
  go_ret
  exact ⟨rfl, hb⟩
end Go.Proofs.Ytkeekecaojpkjaa
