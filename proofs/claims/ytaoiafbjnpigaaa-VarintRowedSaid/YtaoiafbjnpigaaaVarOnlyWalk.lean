/-
  The walk over VarintOnly: it returns true and turns nothing that was there. Condition: what is said of the slice that came in.
-/
import Derived.Test.YtaoiafbjnpigaaaVarShortWalk
namespace Go.Proofs.Ytaoiafbjnpigaaa
open Go.RowKit

set_option maxRecDepth 100000 in
set_option maxHeartbeats 1000000 in
theorem only_some (A : Option Addr) (c : Nat) (bs : List UInt8) (lb : Nat) (at_ n k : Nat) (w : World) (hlb : lb = bs.length) (hs : Seen w w.heap.size A (cells bs)) (hc : lb ≤ c) (hx : lb ≤ 2000) (hat : at_ ≤ lb) (hr : VP.dec (bs.drop at_) = some (n, k)) :
    Calls Try.prog 6 #[.slice A lb c, .int .i64 (at_ : Int)] w fun e w' => e = .returned (.bool true) ∧ Below w.heap.size w w' := by
  obtain ⟨hn, hk0, hkl, hk6, henc⟩ := VP.dec_only hr
  rw [List.length_drop, ← hlb] at hkl
  obtain ⟨bh, hbh⟩ : ∃ bh, bh = at_ + k := ⟨_, rfl⟩
  obtain ⟨D, hcut, hsd⟩ := cut_lh (P := Try.prog) hs 22 5 Try.underlying22 u8_size c at_ bh (by omega) (by omega) (by omega)
  rw [show bh - at_ = k by omega, ← henc] at hsd
  rw [show bh - at_ = k by omega, ← hlb] at hcut
  obtain ⟨xs, hxs⟩ : ∃ xs, xs = VP.enc n := ⟨_, rfl⟩
  rw [← hxs] at hsd
  have hk : k = xs.length := by rw [hxs, henc, List.length_take, List.length_drop, ← hlb]; omega
  have h1 : at_ < bh := by omega
  have h2 : bh ≤ lb := by omega
  have h3 : decide (bh ≤ at_) = false := by simp; omega
  have h4 : decide (lb < bh) = false := by simp; omega
  have h5 : at_ ≤ bh := by omega
  have hself : (xs == xs) = true := by simp
  have HB := Lib.hid hbh
  have HL := Lib.hid hlb
  have HR := Lib.hid hr
  have HX := Lib.hid hxs
  have HK := Lib.hid hk
  clear hbh hlb hr hxs hk henc
  go_enter Try.func6, Try.ntmps6
  go_wp2_with fail
  refine (get_yes A c bs lb at_ n bh _ HL.out hs (by omega) hc hat k HR.out HB.out).mono ?_
  rintro e w1 ⟨rfl, hb1⟩
  go_wp2_with fail
  refine (put_alone n xs k HX.out HK.out _ hn).mono ?_
  rintro e w2 ⟨A2, c2, rfl, hs2, hc2, hb2⟩
  have hb := hb1.trans (hb2.mono hb1.size)
  have hst2 := str_after (P := Try.prog) hs2 22 9 5 k c2 HK.out Try.underlying22 Try.underlying5 Try.underlying9
  have hstd := str_after (P := Try.prog) ((hsd.below hb).up hb.size) 22 9 5 k (c - at_) HK.out Try.underlying22 Try.underlying5 Try.underlying9
  clear hs hsd hs2 hb1 hb2
  go_wp2_with fail
  refine wp_region_after (by kernel_rfl) (by kernel_rfl) ?_
  repeat (go_big_quiet_step (refine Calls.after (wakes_any _)))
  refine wpQuiet_nil ?_
  rintro _ ⟨x, rfl⟩
  go_wp2
  go_ret
  exact ⟨rfl, hb.trans (x.below.mono hb.size)⟩

set_option maxRecDepth 100000 in
set_option maxHeartbeats 1000000 in
theorem only_none (A : Option Addr) (c : Nat) (bs : List UInt8) (lb : Nat) (at_ : Int) (w : World) (hlb : lb = bs.length) (hs : Seen w w.heap.size A (cells bs)) (hc : lb ≤ c) (hx : lb ≤ 2000) (hr : at_ < 0 ∨ (lb : Int) < at_ ∨ VP.dec (bs.drop at_.toNat) = none) :
    Calls Try.prog 6 #[.slice A lb c, .int .i64 at_] w fun e w' => e = .returned (.bool true) ∧ Below w.heap.size w w' := by
  have HL := Lib.hid hlb
  have HR := Lib.hid hr
  clear hlb hr
  go_enter Try.func6, Try.ntmps6
  go_wp2_with fail
  refine (get_not A c bs lb at_ _ HL.out hs (by omega) hc HR.out).mono ?_
  rintro e w1 ⟨rfl, hb1⟩
  go_wp2_with fail
  refine (wakes_any _).mono ?_
  rintro e w2 ⟨rfl, hb2⟩
  go_wp2
  go_ret
  exact ⟨rfl, hb1.trans (hb2.mono hb1.size)⟩

set_option maxRecDepth 100000 in
theorem only_long (A : Option Addr) (c lb : Nat) (at_ : Int) (w : World) (hx : 2000 < lb) (hm : lb ≤ 9223372036854775807) :
    Calls Try.prog 6 #[.slice A lb c, .int .i64 at_] w fun e w' => e = .returned (.bool true) ∧ Below w.heap.size w w' := by
  go_enter Try.func6, Try.ntmps6
  go_wp2_with fail
  refine (wakes_any _).mono ?_
  rintro e w2 ⟨rfl, hb2⟩
  go_wp2
  go_ret
  exact ⟨rfl, hb2⟩

theorem only_walk (a0 : Option Addr) (len0 cap0 : Nat) (z0 : List Int) (a1 : Int) (w : World) (w0 : IsRow .u8 w a0 len0 cap0 z0) :
    Calls Try.prog 6 #[.slice a0 len0 cap0, .int .i64 a1] w fun e w' => e = .returned (.bool true) ∧ Below w.heap.size w w' := by
  obtain ⟨bs, hlb, hs, hl, hm⟩ := bytes_in w0
  by_cases hx : 2000 < len0
  · exact only_long a0 cap0 len0 a1 w hx (by unfold maxLen at hm; omega)
  · by_cases hr : a1 < 0 ∨ (len0 : Int) < a1 ∨ VP.dec (bs.drop a1.toNat) = none
    · exact only_none a0 cap0 bs len0 a1 w hlb hs hl (by omega) hr
    · obtain ⟨p, rfl⟩ : ∃ p : Nat, a1 = p := ⟨a1.toNat, by omega⟩
      rw [Int.toNat_natCast] at hr
      rcases hd : VP.dec (bs.drop p) with _ | ⟨n, k⟩
      · exact absurd (Or.inr (Or.inr hd)) hr
      · exact only_some a0 cap0 bs len0 p n k w hlb hs hl (by omega) (by omega) hd

end Go.Proofs.Ytaoiafbjnpigaaa
