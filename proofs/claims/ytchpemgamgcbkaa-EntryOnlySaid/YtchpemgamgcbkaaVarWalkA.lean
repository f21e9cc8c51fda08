/-
  Contracts of varint's isNumber, Len and add: what each returns and what it does to memory. Conditions: those that each theorem names.
-/
import Derived.Test.YtchpemgamgcbkaaVarMem
namespace Go.Proofs.Ytchpemgamgcbkaa
open Go.RowKit

theorem isNumber_yes (n : Int) (w : World) (h0 : 0 ≤ n) (h1 : n ≤ 1099511627776) :
    Calls Try.prog 65 #[.int .i64 n] w fun e w' => e = .returned (.bool true) ∧ w = w' := by
  go_enter Try.func65, Try.ntmps65
  go_wp2
  go_ret
  exact ⟨rfl, rfl⟩

theorem isNumber_no (n : Int) (w : World) (h : n < 0 ∨ 1099511627776 < n) :
    Calls Try.prog 65 #[.int .i64 n] w fun e w' => e = .returned (.bool false) ∧ w = w' := by
  rcases h with h | h
  · go_enter Try.func65, Try.ntmps65
    go_wp2
    go_ret
    exact ⟨rfl, rfl⟩
  · have h0 : 0 ≤ n := by omega
    have h1 : decide (n ≤ 1099511627776) = false := bool_dec _ (by omega)
    go_enter Try.func65, Try.ntmps65
    go_wp2
    go_ret
    exact ⟨rfl, rfl⟩

theorem len_no (n : Int) (w : World) (h : n < 0 ∨ 1099511627776 < n) :
    Calls Try.prog 61 #[.int .i64 n] w fun e w' => e = .returned (.int .i64 0) ∧ w = w' := by
  go_enter Try.func61, Try.ntmps61
  go_wp2_with (go_at_call 65; refine (isNumber_no _ _ h).mono ?_; rintro e w' ⟨rfl, rfl⟩)
  go_ret
  exact ⟨rfl, rfl⟩

theorem ret_i64 {a b : Int} (h : a = b) : Ending.returned (.int .i64 a) = .returned (.int .i64 b) := by rw [h]

theorem enc_len_div (m : Nat) (h : ¬ m < 128) : (VP.enc m).length = 1 + (VP.enc (m / 128)).length := by rw [VP.enc_great h]; simp; omega

/-- How many bytes are still to be counted. -/
def rest (m : Nat) : Nat := if m = 0 then 0 else (VP.enc m).length
theorem rest_zero : rest 0 = 0 := rfl
theorem rest_step (m : Nat) (h : 0 < m) : rest m = 1 + rest (m / 128) := by
  unfold rest
  rw [if_neg (by omega)]
  by_cases hs : m < 128
  · rw [if_pos (by omega), VP.enc_small hs]; rfl
  · rw [if_neg (by omega), enc_len_div m hs]
theorem rest_first (n : Nat) : (VP.enc n).length = 1 + rest (n / 128) := by
  by_cases hs : n < 128
  · rw [VP.enc_small hs, show n / 128 = 0 by omega]; rfl
  · have := rest_step n (by omega)
    unfold rest at this ⊢
    rw [if_neg (by omega)] at this
    exact this

set_option maxHeartbeats 400000 in
theorem len_yes (n : Nat) (w : World) (h1 : n ≤ 1099511627776) :
    Calls Try.prog 61 #[.int .i64 (n : Int)] w fun e w' => e = .returned (.int .i64 ((VP.enc n).length : Int)) ∧ w = w' := by
  have H := Lib.hid (rest_first n)
  have hsix := VP.enc_six h1
  go_enter Try.func61, Try.ntmps61
  go_wp2_with (go_at_call 65; refine (isNumber_yes _ _ (by omega) (by omega)).mono ?_; rintro e w' ⟨rfl, rfl⟩)
  go_loop [0, 3] (fun x s => ∃ (m k : Nat), m ≤ n ∧ x = .int .i64 m ∧ s = .int .i64 k ∧ k + rest m = (VP.enc n).length) (fun x _ => (intOf x).toNat)
  case atStart => exact ⟨n / 128, 1, by omega, by go_num, rfl, by rw [H.out]⟩
  case round =>
    obtain ⟨m, k, hm, rfl, rfl, hk⟩ := hrel
    by_cases hp : 0 < m
    · have HS := Lib.hid (rest_step m hp)
      have HK := Lib.hid hk
      have hk6 : k ≤ 6 := by omega
      clear hk
      go_wp2
      go_round
      case rel => exact ⟨m / 128, k + 1, by omega, by go_num, by go_num, by have := HS.out; have := HK.out; omega⟩
      case measure => simp [intOf]; omega
    · obtain rfl : m = 0 := by omega
      have HK := Lib.hid hk
      clear hk
      go_wp2
      go_ret
      exact ⟨ret_i64 (by have := HK.out; rw [rest_zero] at this; omega), rfl⟩

end Go.Proofs.Ytchpemgamgcbkaa
