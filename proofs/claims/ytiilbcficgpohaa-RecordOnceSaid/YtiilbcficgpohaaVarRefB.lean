/-
  Contracts of the document's own answers for varint (rovingref01's Get): what it returns; it turns nothing. Conditions: those that each theorem names.
-/
import Derived.Test.YtiilbcficgpohaaVarRefA
namespace Go.Proofs.Ytiilbcficgpohaa
open Go.RowKit

/-- What rovingref01.Get hands back. -/
def GetPost (w : World) (at_ : Nat) (r : Option (Nat × Nat)) (e : Ending) (w' : World) : Prop :=
  w = w' ∧ (∀ n k, r = some (n, k) → e = .returned (.tuple #[.int .i64 (n : Int), .int .i64 ((at_ + k : Nat) : Int), .int .i64 0])) ∧
  (r = none → e = .returned (.tuple #[.int .i64 0, .int .i64 0, .int .i64 70]))
theorem GetPost.of_some {w : World} {at_ n k : Nat} {r : Option (Nat × Nat)} {a b : Int} (hr : r = some (n, k)) (ha : a = n) (hb : b = ((at_ + k : Nat) : Int)) : GetPost w at_ r (.returned (.tuple #[.int .i64 a, .int .i64 b, .int .i64 0])) w := by
  subst ha hb
  refine ⟨rfl, fun n' k' h => ?_, fun h => ?_⟩
  · rw [hr] at h; injection h with h; injection h with h1 h2; subst h1 h2; rfl
  · rw [hr] at h; cases h
theorem GetPost.of_none {w : World} {at_ : Nat} {r : Option (Nat × Nat)} (hr : r = none) : GetPost w at_ r (.returned (.tuple #[.int .i64 0, .int .i64 0, .int .i64 70])) w := by
  refine ⟨rfl, fun n' k' h => ?_, fun _ => rfl⟩
  rw [hr] at h; cases h

theorem ref_get_out (A : Option Addr) (lb c : Nat) (at_ : Int) (w : World) (h : at_ < 0 ∨ (lb : Int) < at_) :
    Calls Try.prog 55 #[.slice A lb c, .int .i64 at_] w fun e w' => e = .returned (.tuple #[.int .i64 0, .int .i64 0, .int .i64 70]) ∧ w = w' := by
  by_cases h0 : at_ < 0
  · go_enter Try.func55, Try.ntmps55
    go_wp2
    go_ret3
    exact ⟨rfl, rfl⟩
  · have h1 : (lb : Int) < at_ := by omega
    go_enter Try.func55, Try.ntmps55
    go_wp2
    go_ret3
    exact ⟨rfl, rfl⟩

theorem mul_unit {u y : Nat} (hu : u ≤ 34359738368) : wrap64 ((u : Int) * ((y : Int) % 128)) = ((u * (y % 128) : Nat) : Int) := by
  have hlt : y % 128 < 128 := Nat.mod_lt _ (by omega)
  have hle : u * (y % 128) ≤ u * 127 := Nat.mul_le_mul_left _ (by omega)
  have e1 : (u : Int) * ((y : Int) % 128) = ((u * (y % 128) : Nat) : Int) := by simp [Int.natCast_mul]
  rw [e1]
  exact IntWalk.wrap64_in _ ⟨by omega, by omega⟩

set_option maxRecDepth 100000 in
set_option maxHeartbeats 1000000 in
theorem ref_get (A : Option Addr) (c : Nat) (bs : List UInt8) (lb at_ : Nat) (w : World) (hlb : lb = bs.length) (hs : Seen w w.heap.size A (cells bs)) (hx : lb ≤ 1000000) (hat : at_ ≤ lb) :
    Calls Try.prog 55 #[.slice A lb c, .int .i64 (at_ : Int)] w (GetPost w at_ (VP.dec (bs.drop at_))) := by
  obtain ⟨r, hr⟩ : ∃ r, r = VP.dec (bs.drop at_) := ⟨_, rfl⟩
  rw [← hr]
  have HB := Lib.hid hlb
  have HR := Lib.hid hr
  clear hlb hr
  go_enter Try.func55, Try.ntmps55
  go_wp2
  go_loop [7, 8, 9] (fun a b d => ∃ (z u k i : Nat), k ≤ 6 ∧ i ≤ lb ∧ a = .int .i64 z ∧ b = .int .i64 u ∧ d = .int .i64 i ∧ z < u ∧ i = at_ + k ∧ u = 128 ^ k ∧ r = VP.decGo k z (bs.drop i)) (fun _ _ d => lb - (intOf d).toNat)
  case atStart => exact ⟨0, 1, 0, at_, by omega, hat, rfl, rfl, rfl, by omega, rfl, rfl, HR.out⟩
  case round =>
    obtain ⟨z, u, k, i, hk, hi, rfl, rfl, rfl, hz, hik, hu, hd⟩ := hrel
    have HD := Lib.hid hd
    have HU := Lib.hid hu
    have HIK := Lib.hid hik
    clear hd hu hik
    by_cases hlt : i < lb
    · by_cases hk6 : k < 6
      · have hi6 : i < at_ + 6 := by have := HIK.out; omega
        have hai : at_ ≤ i := by have := HIK.out; omega
        obtain ⟨x, hdrop, hget⟩ := byte_here (rs := bs) (n := bs.length) (k := i) (by have := HB.out; omega) (Nat.le_refl _)
        rw [List.take_length] at hget
        obtain ⟨b, off, rfl, hbB, hcell⟩ := hs (by intro e; rw [e] at hget; simp at hget)
        have hcx := hcell i _ hget
        obtain ⟨y, hy⟩ : ∃ y, y = x.toNat := ⟨_, rfl⟩
        have hy255 : y < 256 := by rw [hy]; exact x.toNat_lt
        rw [← hy] at hcx
        have hu5 : u ≤ 34359738368 := by
          rw [HU.out]
          exact Nat.le_trans (Nat.pow_le_pow_right (by omega) (show k ≤ 5 by omega)) (by decide)
        obtain ⟨p, hp⟩ : ∃ p, p = u * (y % 128) := ⟨_, rfl⟩
        have hmul := mul_unit (y := y) hu5
        rw [← hp] at hmul
        have hple : p ≤ u * 127 := by rw [hp]; exact Nat.mul_le_mul_left _ (by have := Nat.mod_lt y (show 0 < 128 by omega); omega)
        have hpe : y % 128 * 128 ^ k = p := by rw [hp, HU.out, Nat.mul_comm]
        have HMORE : Hid (128 ≤ y → r = VP.decGo (k + 1) (z + p) (bs.drop (i + 1)) ∧ u * 128 = 128 ^ (k + 1)) := fun h => by
          refine ⟨?_, by rw [Nat.pow_succ, ← HU.out]⟩
          rw [HD.out, hdrop, VP.decGo_more (by omega) (by omega), ← hy, hpe]
        have HBAD : Hid (y < 128 → (1099511627776 < z + p ∨ (y = 0 ∧ 0 < k)) → r = none) := fun h h' => by
          rw [HD.out, hdrop, VP.decGo_bad (by omega) (by omega) (by rw [← hy, hpe]; exact h')]
        have HLAST : Hid (y < 128 → ¬ (1099511627776 < z + p ∨ (y = 0 ∧ 0 < k)) → r = some (z + p, k + 1)) := fun h h' => by
          rw [HD.out, hdrop, VP.decGo_last (by omega) (by omega) (by rw [← hy, hpe]; exact h'), ← hy, hpe]
        have hmod : (y : Int).tmod 128 = (y : Int) % 128 := Int.tmod_eq_emod_of_nonneg (by omega)
        clear hcell hget hs hdrop HD hy hp hpe HR
        by_cases hmore : 128 ≤ y
        · go_wp2
          go_round
          case rel => exact ⟨z + p, u * 128, k + 1, i + 1, by omega, by omega, by go_num, by go_num, by go_num, by omega, by have := HIK.out; omega, (HMORE.out hmore).2, (HMORE.out hmore).1⟩
          case measure => simp [intOf]; omega
        · have hy128 : y < 128 := by omega
          by_cases hbig : 1099511627776 < z + p
          · have hbig' : (1099511627776 : Int) < (z : Int) + (p : Int) := by omega
            go_wp2
            go_ret3
            exact GetPost.of_none (HBAD.out hy128 (Or.inl hbig))
          · have hbig' : (z : Int) + (p : Int) ≤ (1099511627776 : Int) := by omega
            by_cases hpos : 1 ≤ y
            · have hy0 : ((y : Int) == 0) = false := by simp; omega
              by_cases hk0 : at_ < i
              · go_wp2
                go_ret3
                refine GetPost.of_some (HLAST.out hy128 (by omega)) ?_ ?_ <;> (have := HIK.out; omega)
              · go_wp2
                go_ret3
                refine GetPost.of_some (HLAST.out hy128 (by omega)) ?_ ?_ <;> (have := HIK.out; omega)
            · have hy0 : ((y : Int) == 0) = true := by simp; omega
              by_cases hk0 : at_ < i
              · go_wp2
                go_ret3
                exact GetPost.of_none (HBAD.out hy128 (Or.inr ⟨by omega, by have := HIK.out; omega⟩))
              · go_wp2
                go_ret3
                refine GetPost.of_some (HLAST.out hy128 (by have := HIK.out; omega)) ?_ ?_ <;> (have := HIK.out; omega)
      · have hi6 : at_ + 6 ≤ i := by have := HIK.out; omega
        have HEND : Hid (r = none) := by
          show r = none
          rw [HD.out]
          exact VP.decGo_far (by omega) _ _
        clear HD HIK HU hz
        go_wp2
        go_ret3
        exact GetPost.of_none HEND.out
    · have HEND : Hid (r = none) := by
        show r = none
        rw [HD.out, List.drop_eq_nil_of_le (by have := HB.out; omega)]
        exact VP.decGo_nil _ _
      have hle : lb ≤ i := by omega
      clear HD HIK HU hz
      go_wp2
      go_ret3
      exact GetPost.of_none HEND.out

end Go.Proofs.Ytiilbcficgpohaa
