/-
  The walk over VarintBack: it returns true and turns nothing that was there. Condition: what is said of the slices that came in.
-/
import Derived.Test.YtaoiafbjnpigaaaVarOnlyWalk
namespace Go.Proofs.Ytaoiafbjnpigaaa
open Go.RowKit

/-- Put behind b, the lengths under names of their own. -/
theorem put_behind (A : Option Addr) (c : Nat) (bs : List UInt8) (lb n : Nat) (xs : List UInt8) (lx : Nat) (hlb : lb = bs.length) (hxs : xs = bs ++ VP.enc n) (hlx : lx = xs.length) (w : World) (hs : Seen w w.heap.size A (cells bs)) (hx : lb ≤ 1000000) (hn : n ≤ 1099511627776) :
    Calls Try.prog 10 #[.slice A lb c, .int .i64 (n : Int)] w fun e w' =>
      ∃ A' c', e = .returned (.tuple #[.slice A' lx c', .int .i64 0]) ∧ Seen w' w'.heap.size A' (cells xs) ∧ lx ≤ c' ∧ Below w.heap.size w w' := by
  subst hlb hxs hlx
  refine (put_yes A c bs n w hs hx hn).mono ?_
  rintro e w1 ⟨v1, rfl, hown, hb⟩
  obtain ⟨A', c', rfl, hs', hc'⟩ := own_bytes hown
  exact ⟨A', c', rfl, hs', hc', hb⟩

set_option maxRecDepth 100000 in
set_option maxHeartbeats 1000000 in
theorem back_yes (A H : Option Addr) (c d : Nat) (bs hs : List UInt8) (lb lh n : Nat) (w : World) (hlb : lb = bs.length) (hlh : lh = hs.length) (hsb : Seen w w.heap.size A (cells bs)) (hsh : Seen w w.heap.size H (cells hs))
    (hxb : lb ≤ 2000) (hxh : lh ≤ 2000) (hn : n ≤ 1099511627776) :
    Calls Try.prog 5 #[.slice A lb c, .slice H lh d, .int .i64 (n : Int)] w fun e w' => e = .returned (.bool true) ∧ Below w.heap.size w w' := by
  obtain ⟨i0, hi0, hz0, hz1, hz2⟩ := info_parts u8_info
  obtain ⟨es, hes⟩ : ∃ es, es = VP.enc n := ⟨_, rfl⟩
  obtain ⟨le, hle⟩ : ∃ le, le = es.length := ⟨_, rfl⟩
  obtain ⟨xs, hxs⟩ : ∃ xs, xs = bs ++ VP.enc n := ⟨_, rfl⟩
  obtain ⟨lx, hlx⟩ : ∃ lx, lx = xs.length := ⟨_, rfl⟩
  have he6 : le ≤ 6 := by rw [hle, hes]; exact VP.enc_six hn
  have hlxe : lx = lb + le := by rw [hlx, hxs, hlb, hle, hes, List.length_append]
  have HB := Lib.hid hlb
  have HH := Lib.hid hlh
  have HE := Lib.hid hes
  have HLE := Lib.hid hle
  have HX := Lib.hid hxs
  have HLX := Lib.hid hlx
  have HLXE := Lib.hid hlxe
  have hlx2 : lx ≤ 2006 := by omega
  have hblx : lb ≤ lx := by omega
  clear hlb hlh hes hle hxs hlx hlxe
  go_enter Try.func5, Try.ntmps5
  go_wp2_with fail
  refine (put_behind A c bs lb n xs lx HB.out HX.out HLX.out _ hsb (by omega) hn).mono ?_
  rintro e w1 ⟨A1, c1, rfl, hs1, hc1, hb1⟩
  have hbz : Below w1.heap.size w1 (w1.alloc (.cells #[] 5)) := (Below.refl _ _).alloc (Nat.le_refl _) _
  have hown0 : (w1.alloc (.cells #[] 5)).ownsRow w1.heap.size 5 1 (.slice (some ⟨w1.heap.size, 0, none⟩) 0 0) 0 [] := World.ownsRow_made w1 #[] 0 (Nat.le_refl _) (by unfold maxLen; omega) rfl
  have hs1' := hs1.below hbz
  go_wp2_with (at_builtin; refine wpList_append_seen rfl (.tmp 49) (.tmp 50) 22 rfl w1.heap.size 5 i0 (.int .u8 0) 1 Try.underlying22 hi0 hz0 hz1 hz2 rfl _ 0 [] rfl hown0 w1.heap.size A1 lx c1 (cells xs) rfl ?c0 hs1' (cells_one _) ?c1 ?c2 ?c3 ?_)
  case c0 => rw [cells_length]; exact HLX.out.symm
  case c1 => unfold maxLen; omega
  case c2 => omega
  case c3 => simp
  intro v2 w2 hown2 hb2
  have hb12 : Below w1.heap.size w1 w2 := hbz.trans hb2
  have hz12 := hb12.size
  have hbw2 : Below w.heap.size w w2 := hb1.trans (hb12.mono hb1.size)
  have hsh' := hsh.below hbw2
  go_wp2_with (at_builtin; refine wpList_append_seen rfl (.tmp 51) (.tmp 52) 22 rfl w1.heap.size 5 i0 (.int .u8 0) 1 Try.underlying22 hi0 hz0 hz1 hz2 rfl v2 lx (cells xs) rfl hown2 w.heap.size H lh d (cells hs) rfl ?d0 hsh' (cells_one _) ?d1 ?d2 ?d3 ?_)
  case d0 => rw [cells_length]; exact HH.out.symm
  case d1 => unfold maxLen; omega
  case d2 => omega
  case d3 => exact hz12
  intro v3 w3 hown3 hb3
  have hbw3 : Below w.heap.size w w3 := hbw2.trans (hb3.mono hb1.size)
  obtain ⟨ts, hts⟩ : ∃ ts, ts = xs ++ hs := ⟨_, rfl⟩
  obtain ⟨lt, hlt⟩ : ∃ lt, lt = lx + lh := ⟨_, rfl⟩
  rw [← cells_append, ← hts, ← hlt] at hown3
  have hltt : lt = ts.length := by rw [hlt, hts, List.length_append, ← HLX.out, ← HH.out]
  have hdec : VP.dec (ts.drop lb) = some (n, le) := by
    rw [hts, HX.out, HB.out, List.append_assoc, List.drop_left, VP.dec_enc hn, HLE.out, HE.out]
  have hlt4 : lt ≤ 4006 := by omega
  have hlbt : lb ≤ lt := by omega
  obtain ⟨A3, c3, rfl, hs3, hc3⟩ := own_form hown3
  have HDEC := Lib.hid hdec
  have HLT := Lib.hid hltt
  clear hdec hltt hts hlt hown3 hown2 hown0 hs1' hbz hsh'
  go_wp2_with fail
  refine (get_yes A3 c3 ts lt lb n lx _ HLT.out hs3 (by omega) hc3 hlbt le HDEC.out HLXE.out).mono ?_
  rintro e w4 ⟨rfl, hb4⟩
  have hb14 : Below w1.heap.size w1 w4 := (hb12.trans hb3).trans (hb4.mono (by have := hb3.size; omega))
  have hb : Below w.heap.size w w4 := hb1.trans (hb14.mono hb1.size)
  obtain ⟨D, hcut, hsd⟩ := cut_to (P := Try.prog) hs1 22 5 Try.underlying22 u8_size c1 lb (by rw [← HLX.out]; exact hblx) (by rw [← HLX.out]; exact hc1)
  rw [← HLX.out] at hcut
  rw [show xs.take lb = bs by rw [HX.out, HB.out, List.take_left]] at hsd
  have hst1 := str_after (P := Try.prog) ((hsd.below hb14).up hb14.size) 22 9 5 lb c1 HB.out Try.underlying22 Try.underlying5 Try.underlying9
  have hst2 := str_after (P := Try.prog) ((hsb.below hb).up hb.size) 22 9 5 lb c HB.out Try.underlying22 Try.underlying5 Try.underlying9
  have hself : (bs == bs) = true := by simp
  have hn1 : ((n : Int) == (n : Int)) = true := by simp
  have hl1 : ((lx : Int) == (lx : Int)) = true := by simp
  have hsum : IntKind.i64.wrap ((lb : Int) + (le : Int)) = (lx : Int) := by have := HLXE.out; rw [IntWalk.i64_in _ (by omega)]; omega
  clear hs1 hsd hsb hsh hs3 hb1 hb2 hb3 hb4 hb12 hb14 hbw2 hbw3
  go_wp2_with fail
  refine wp_region_after (by kernel_rfl) (by kernel_rfl) ?_
  repeat (go_big_quiet_step ((first
    | (go_at_call 14; exact Calls.after_same (len_is n es le HE.out HLE.out _ hn))
    | exact Calls.after (wakes_any _))))
  refine wpQuiet_nil ?_
  rintro _ ⟨x, rfl⟩
  go_wp2
  go_ret
  exact ⟨rfl, hb.trans (x.below.mono hb.size)⟩

set_option maxRecDepth 100000 in
theorem back_no (A H : Option Addr) (c d lb lh : Nat) (n : Int) (w : World) (hxb : lb ≤ 2000) (hxh : lh ≤ 2000) (hn : n < 0 ∨ 1099511627776 < n) :
    Calls Try.prog 5 #[.slice A lb c, .slice H lh d, .int .i64 n] w fun e w' => e = .returned (.bool true) ∧ Below w.heap.size w w' := by
  rcases hn with hn | hn
  all_goals
    go_enter Try.func5, Try.ntmps5
    go_wp2_with fail
    refine (put_no _ n _ (by omega)).mono ?_
    rintro e w1 ⟨rfl, rfl⟩
    go_wp2_with fail
    refine (len_no n _ (by omega)).mono ?_
    rintro e w1 ⟨rfl, rfl⟩
    go_wp2_with fail
    refine (wakes_any _).mono ?_
    rintro e w1 ⟨rfl, hb⟩
    go_wp2
    go_ret
    exact ⟨rfl, hb⟩

set_option maxRecDepth 100000 in
theorem back_long (A H : Option Addr) (c d lb lh : Nat) (n : Int) (w : World) (hx : 2000 < lb ∨ 2000 < lh) (hb : lb ≤ 9223372036854775807) (hh : lh ≤ 9223372036854775807) :
    Calls Try.prog 5 #[.slice A lb c, .slice H lh d, .int .i64 n] w fun e w' => e = .returned (.bool true) ∧ Below w.heap.size w w' := by
  by_cases h1 : 2000 < lb
  · go_enter Try.func5, Try.ntmps5
    go_wp2_with fail
    refine (wakes_any _).mono ?_
    rintro e w1 ⟨rfl, hb⟩
    go_wp2
    go_ret
    exact ⟨rfl, hb⟩
  · have h2 : 2000 < lh := by omega
    have h1' : lb ≤ 2000 := by omega
    clear hx h1
    go_enter Try.func5, Try.ntmps5
    go_wp2_with fail
    refine (wakes_any _).mono ?_
    rintro e w1 ⟨rfl, hb⟩
    go_wp2
    go_ret
    exact ⟨rfl, hb⟩

theorem back_walk (a0 : Option Addr) (len0 cap0 : Nat) (z0 : List Int) (a1 : Option Addr) (len1 cap1 : Nat) (z1 : List Int) (a2 : Int) (w : World) (w0 : IsRow .u8 w a0 len0 cap0 z0) (w1 : IsRow .u8 w a1 len1 cap1 z1) :
    Calls Try.prog 5 #[.slice a0 len0 cap0, .slice a1 len1 cap1, .int .i64 a2] w fun e w' => e = .returned (.bool true) ∧ Below w.heap.size w w' := by
  obtain ⟨bs, hlb, hs, hl, hm⟩ := bytes_in w0
  obtain ⟨hs', hlh, hsh, hl', hm'⟩ := bytes_in w1
  unfold maxLen at hm hm'
  by_cases hx : 2000 < len0 ∨ 2000 < len1
  · exact back_long a0 a1 cap0 cap1 len0 len1 a2 w hx (by omega) (by omega)
  · by_cases hn : a2 < 0 ∨ 1099511627776 < a2
    · exact back_no a0 a1 cap0 cap1 len0 len1 a2 w (by omega) (by omega) hn
    · obtain ⟨n, rfl⟩ : ∃ n : Nat, a2 = n := ⟨a2.toNat, by omega⟩
      exact back_yes a0 a1 cap0 cap1 bs hs' len0 len1 n w hlb hlh hs hsh (by omega) (by omega) (by omega)

end Go.Proofs.Ytaoiafbjnpigaaa
