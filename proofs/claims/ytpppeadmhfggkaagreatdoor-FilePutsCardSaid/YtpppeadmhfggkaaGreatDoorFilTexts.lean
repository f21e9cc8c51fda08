/-
  Contracts of the reference's Texts (whether two rows of loads are the same) and of the laws' great (whether a load is above a bound). Conditions: those that each theorem names.
-/
import Derived.Test.YtpppeadmhfggkaaGreatDoorFilG3
import Derived.Test.YtpppeadmhfggkaaGreatDoorFilG5
import Derived.Deep.QuietTactic
import Derived.BigQuiet
namespace Go.Proofs.YtpppeadmhfggkaaGreatDoor
open Go.RowKit

/-! ### great -/
def greatL (ls : List (List UInt8)) : Bool := ls.any fun x => decide (3000 < x.length)
theorem greatL_no {ls : List (List UInt8)} (h : greatL ls = false) : ∀ x ∈ ls, x.length ≤ 3000 := fun x hx => by
  have := List.any_eq_false.1 h x hx
  simpa using this
theorem greatL_step {ls : List (List UInt8)} {k : Nat} (h : k < ls.length) : greatL (ls.take (k + 1)) = (greatL (ls.take k) || decide (3000 < ls[k].length)) := by
  unfold greatL
  rw [List.take_succ_eq_append_getElem h, List.any_append]
  simp
set_option maxRecDepth 100000 in
set_option maxHeartbeats 400000 in
theorem greatL_any (A : Option Addr) (n c B : Nat) (ls : List (List UInt8)) (b : Bool) (w : World) (hn : n = ls.length) (hb : greatL ls = b) (hs : Seen w B A (strs ls)) (hmax : n ≤ 9223372036854775807) (hsz : ∀ x ∈ ls, x.length ≤ 9223372036854775807) :
    Calls Tryz.prog 12 #[.slice A n c] w fun e w' => e = .returned (.bool b) ∧ w = w' := by
  have HN := Lib.hid hn
  have HB := Lib.hid hb
  have HSZ := Lib.hid hsz
  clear hn hb hsz
  go_enter Tryz.func12, Tryz.ntmps12
  go_wp2
  go_loop [7] (fun i => ∃ k : Nat, k ≤ n ∧ i = .int .i64 (k : Int) ∧ greatL (ls.take k) = false) (fun i => n - (intOf i).toNat)
  case atStart => exact ⟨0, by omega, rfl, rfl⟩
  case round =>
    obtain ⟨k, hk, rfl, hall⟩ := hrel
    have HA := Lib.hid hall
    clear hall
    by_cases hlt : k < n
    · have hkl : k < ls.length := by rw [← HN.out]; exact hlt
      obtain ⟨bb, off, rfl, hbb, hc⟩ := seen_at hs hkl
      obtain ⟨x, hx⟩ : ∃ x, x = ls[k] := ⟨_, rfl⟩
      have hxl : x.length ≤ 9223372036854775807 := by rw [hx]; exact HSZ.out _ (List.getElem_mem _)
      have hst := greatL_step hkl
      rw [← hx] at hc hst
      have hxs := str_size x
      obtain ⟨z, hz⟩ : ∃ z, z = (str x).size := ⟨_, rfl⟩
      have HST := Lib.hid hst
      have HX := Lib.hid hx
      by_cases hg : 3000 < x.length
      · have hg' : 3000 < (str x).size := by omega
        have hb1 : true = b := by
          rw [← HB.out]
          symm
          unfold greatL
          rw [List.any_eq_true]
          exact ⟨x, by rw [HX.out]; exact List.getElem_mem _, decide_eq_true hg⟩
        subst hb1
        clear hx hst hxs hz hg
        go_wp2
        go_ret
        exact ⟨rfl, rfl⟩
      · have hg' : decide ((3000 : Int) < ((str x).size : Int)) = false := decide_eq_false (by omega)
        clear hx hst hz hxs
        have HG := Lib.hid hg
        clear hg
        go_wp2
        go_round
        case rel => exact ⟨k + 1, by omega, by go_num, by rw [HST.out, HA.out, decide_eq_false HG.out]; rfl⟩
        case measure => simp [intOf]; omega
    · obtain rfl : k = n := by omega
      have hb1 : false = b := by
        rw [← HB.out, ← HA.out, List.take_of_length_le (by rw [HN.out]; exact Nat.le_refl _)]
      subst hb1
      go_wp2
      go_ret
      exact ⟨rfl, rfl⟩
end Go.Proofs.YtpppeadmhfggkaaGreatDoor
