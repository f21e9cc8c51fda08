/-
  The walk over VarintShort: it returns true and turns nothing that was there. No conditions.
-/
import Derived.Test.YtaoiafbjnpigaaaVarWakes
import Derived.Deep.RegionWith
namespace Go.Proofs.Ytaoiafbjnpigaaa
open Go.RowKit

theorem short_n (n m : Int) (w : World) (h : n < 0 ∨ 1099511627776 < n) : Calls Try.prog 7 #[.int .i64 n, .int .i64 m] w fun e w' => e = .returned (.bool true) ∧ Below w.heap.size w w' := by
  by_cases hm : m < 0 ∨ 1099511627776 < m
  · go_enter Try.func7, Try.ntmps7
    go_wp2_with fail
    refine (put_no _ n _ h).mono ?_
    rintro e w1 ⟨rfl, rfl⟩
    go_wp2_with fail
    refine (put_no _ m _ hm).mono ?_
    rintro e w1 ⟨rfl, rfl⟩
    go_wp2_with fail
    refine (len_no n _ h).mono ?_
    rintro e w1 ⟨rfl, rfl⟩
    go_wp2_with fail
    refine (wakes_any _).mono ?_
    rintro e w1 ⟨rfl, hb⟩
    go_wp2
    go_ret
    exact ⟨rfl, hb⟩
  · obtain ⟨m', rfl⟩ : ∃ m' : Nat, m = m' := ⟨m.toNat, by omega⟩
    go_enter Try.func7, Try.ntmps7
    go_wp2_with fail
    refine (put_no _ n _ h).mono ?_
    rintro e w1 ⟨rfl, rfl⟩
    go_wp2_with fail
    refine (put_yes none 0 [] m' _ (Seen.nil _ _ _) (by simp) (by omega)).mono ?_
    rintro e w1 ⟨v1, rfl, _, hb1⟩
    go_wp2_with fail
    refine (len_no n _ h).mono ?_
    rintro e w1 ⟨rfl, rfl⟩
    go_wp2_with fail
    refine (wakes_any _).mono ?_
    rintro e w1 ⟨rfl, hb⟩
    go_wp2
    go_ret
    exact ⟨rfl, hb1.trans (hb.mono hb1.size)⟩

theorem short_m (n : Nat) (m : Int) (w : World) (hn : n ≤ 1099511627776) (h : m < 0 ∨ 1099511627776 < m) : Calls Try.prog 7 #[.int .i64 (n : Int), .int .i64 m] w fun e w' => e = .returned (.bool true) ∧ Below w.heap.size w w' := by
  go_enter Try.func7, Try.ntmps7
  go_wp2_with fail
  refine (put_yes none 0 [] n _ (Seen.nil _ _ _) (by simp) (by omega)).mono ?_
  rintro e w1 ⟨v1, rfl, _, hb1⟩
  go_wp2_with fail
  refine (put_no _ m _ h).mono ?_
  rintro e w2 ⟨rfl, rfl⟩
  go_wp2_with fail
  refine (wakes_any _).mono ?_
  rintro e w2 ⟨rfl, hb⟩
  go_wp2
  go_ret
  exact ⟨rfl, hb1.trans (hb.mono hb1.size)⟩

/-- Put behind nothing; Len of the same number. -/
theorem put_alone (n : Nat) (xs : List UInt8) (lx : Nat) (hxs : xs = VP.enc n) (hlx : lx = xs.length) (w : World) (hn : n ≤ 1099511627776) :
    Calls Try.prog 10 #[.slice none 0 0, .int .i64 (n : Int)] w fun e w' =>
      ∃ A c, e = .returned (.tuple #[.slice A lx c, .int .i64 0]) ∧ Seen w' w'.heap.size A (cells xs) ∧ lx ≤ c ∧ Below w.heap.size w w' := by
  subst hxs hlx
  refine (put_yes none 0 [] n w (Seen.nil _ _ _) (by simp) hn).mono ?_
  rintro e w1 ⟨v1, rfl, hown, hb⟩
  obtain ⟨A, c, rfl, hs, hc⟩ := own_bytes hown
  exact ⟨A, c, rfl, hs, hc, hb⟩
theorem len_is (n : Nat) (xs : List UInt8) (lx : Nat) (hxs : xs = VP.enc n) (hlx : lx = xs.length) (w : World) (hn : n ≤ 1099511627776) :
    Calls Try.prog 14 #[.int .i64 (n : Int)] w fun e w' => e = .returned (.int .i64 (lx : Int)) ∧ w = w' := by
  subst hxs hlx
  exact len_yes n w hn

theorem same_length (lx : Nat) : ((lx : Int) != (lx : Int)) = false := by simp

set_option maxRecDepth 100000 in
set_option maxHeartbeats 1000000 in
theorem short_both (n m : Nat) (w : World) (hn : n ≤ 1099511627776) (hm : m ≤ 1099511627776) : Calls Try.prog 7 #[.int .i64 (n : Int), .int .i64 (m : Int)] w fun e w' => e = .returned (.bool true) ∧ Below w.heap.size w w' := by
  obtain ⟨xs, hxs⟩ : ∃ xs, xs = VP.enc n := ⟨_, rfl⟩
  obtain ⟨ys, hys⟩ : ∃ ys, ys = VP.enc m := ⟨_, rfl⟩
  obtain ⟨lx, hlx⟩ : ∃ lx, lx = xs.length := ⟨_, rfl⟩
  obtain ⟨ly, hly⟩ : ∃ ly, ly = ys.length := ⟨_, rfl⟩
  have hx0 : 0 < lx := by rw [hlx, hxs]; exact VP.enc_pos n
  have hx6 : lx ≤ 6 := by rw [hlx, hxs]; exact VP.enc_six hn
  have hy6 : ly ≤ 6 := by rw [hly, hys]; exact VP.enc_six hm
  have HLE : Hid (n ≤ m → lx ≤ ly) := by rw [hlx, hly, hxs, hys]; exact VP.enc_mono n m
  have HAP : Hid (n ≠ m → (xs == ys.take lx) = false) := fun h => by
    rw [beq_eq_false_iff_ne]
    intro e
    rw [hlx, hxs, hys] at e
    exact h (VP.enc_apart hn hm e)
  have HX := Lib.hid hxs
  have HY := Lib.hid hys
  have HLX := Lib.hid hlx
  have HLY := Lib.hid hly
  clear hxs hys hlx hly
  go_enter Try.func7, Try.ntmps7
  go_wp2_with fail
  refine (put_alone n xs lx HX.out HLX.out _ hn).mono ?_
  rintro e w1 ⟨A1, c1, rfl, hs1, hc1, hb1⟩
  go_wp2_with fail
  refine (put_alone m ys ly HY.out HLY.out _ hm).mono ?_
  rintro e w2 ⟨A2, c2, rfl, hs2, hc2, hb2⟩
  have hsx := (hs1.below hb2).up hb2.size
  have hb := hb1.trans (hb2.mono hb1.size)
  have hsl := same_length lx
  have hl0 : ((lx : Int) == 0) = false := by simp; omega
  have hstx := str_after (P := Try.prog) hsx 22 9 5 lx c1 HLX.out Try.underlying22 Try.underlying5 Try.underlying9
  clear hs1 hb1 hb2 hsx
  by_cases hle : lx ≤ ly
  · obtain ⟨D, hcut, hsd⟩ := cut_to (P := Try.prog) hs2 22 5 Try.underlying22 u8_size c2 lx (by rw [← HLY.out]; exact hle) (by rw [← HLY.out]; exact hc2)
    rw [← HLY.out] at hcut
    have hsty := str_after (P := Try.prog) hsd 22 9 5 lx c2 (by rw [List.length_take, ← HLY.out]; omega) Try.underlying22 Try.underlying5 Try.underlying9
    have hgt : decide (ly < lx) = false := by simpa using hle
    clear hs2 hsd
    by_cases hEq : n = m
    · subst hEq
      have hself : ((n : Int) == (n : Int)) = true := by simp
      have hlen : (n : Int) ≤ (n : Int) := by omega
      go_wp2_with (first
        | (go_at_call_of 14 (Value.int IntKind.i64 (n : Int)); refine (len_is n xs lx HX.out HLX.out _ hn).mono ?_; rintro e w' ⟨rfl, rfl⟩)
        | (go_at_call_of 14 (Value.int IntKind.i64 (m : Int)); refine (len_is m ys ly HY.out HLY.out _ hm).mono ?_; rintro e w' ⟨rfl, rfl⟩))
      refine wp_region_after (by kernel_rfl) (by kernel_rfl) ?_
      repeat (go_big_quiet_step (refine Calls.after (wakes_any _)))
      refine wpQuiet_nil ?_
      rintro _ ⟨x, rfl⟩
      go_wp2
      go_ret
      exact ⟨rfl, hb.trans (x.below.mono hb.size)⟩
    · have hne : ((n : Int) == (m : Int)) = false := by simp; omega
      have hap := HAP.out hEq
      by_cases hnm : n ≤ m
      · go_wp2_with (first
          | (go_at_call_of 14 (Value.int IntKind.i64 (n : Int)); refine (len_is n xs lx HX.out HLX.out _ hn).mono ?_; rintro e w' ⟨rfl, rfl⟩)
          | (go_at_call_of 14 (Value.int IntKind.i64 (m : Int)); refine (len_is m ys ly HY.out HLY.out _ hm).mono ?_; rintro e w' ⟨rfl, rfl⟩))
        refine wp_region_after (by kernel_rfl) (by kernel_rfl) ?_
        repeat (go_big_quiet_step (refine Calls.after (wakes_any _)))
        refine wpQuiet_nil ?_
        rintro _ ⟨x, rfl⟩
        go_wp2
        go_ret
        exact ⟨rfl, hb.trans (x.below.mono hb.size)⟩
      · go_wp2_with (first
          | (go_at_call_of 14 (Value.int IntKind.i64 (n : Int)); refine (len_is n xs lx HX.out HLX.out _ hn).mono ?_; rintro e w' ⟨rfl, rfl⟩)
          | (go_at_call_of 14 (Value.int IntKind.i64 (m : Int)); refine (len_is m ys ly HY.out HLY.out _ hm).mono ?_; rintro e w' ⟨rfl, rfl⟩))
        refine wp_region_after (by kernel_rfl) (by kernel_rfl) ?_
        repeat (go_big_quiet_step (refine Calls.after (wakes_any _)))
        refine wpQuiet_nil ?_
        rintro _ ⟨x, rfl⟩
        go_wp2
        go_ret
        exact ⟨rfl, hb.trans (x.below.mono hb.size)⟩
  · have hnm : ¬ n ≤ m := fun h => hle (HLE.out h)
    have hne : ((n : Int) == (m : Int)) = false := by simp; omega
    have hgt : decide (ly < lx) = true := by simp; omega
    go_wp2_with (first
      | (go_at_call_of 14 (Value.int IntKind.i64 (n : Int)); refine (len_is n xs lx HX.out HLX.out _ hn).mono ?_; rintro e w' ⟨rfl, rfl⟩)
      | (go_at_call_of 14 (Value.int IntKind.i64 (m : Int)); refine (len_is m ys ly HY.out HLY.out _ hm).mono ?_; rintro e w' ⟨rfl, rfl⟩))
    refine wp_region_after (by kernel_rfl) (by kernel_rfl) ?_
    repeat (go_big_quiet_step (refine Calls.after (wakes_any _)))
    refine wpQuiet_nil ?_
    rintro _ ⟨x, rfl⟩
    go_wp2
    go_ret
    exact ⟨rfl, hb.trans (x.below.mono hb.size)⟩

theorem short_walk (n m : Int) (w : World) : Calls Try.prog 7 #[.int .i64 n, .int .i64 m] w fun e w' => e = .returned (.bool true) ∧ Below w.heap.size w w' := by
  by_cases hn : n < 0 ∨ 1099511627776 < n
  · exact short_n n m w hn
  · obtain ⟨n', rfl⟩ : ∃ n' : Nat, n = n' := ⟨n.toNat, by omega⟩
    by_cases hm : m < 0 ∨ 1099511627776 < m
    · exact short_m n' m w (by omega) hm
    · obtain ⟨m', rfl⟩ : ∃ m' : Nat, m = m' := ⟨m.toNat, by omega⟩
      exact short_both n' m' w (by omega) (by omega)

end Go.Proofs.Ytaoiafbjnpigaaa
