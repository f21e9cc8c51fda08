/-
  The walk over VarintRows: it returns true and turns nothing that was there. Condition: what is said of the slices that came in.
-/
import Derived.Test.YtaoiafbjnpigaaaVarRowC
namespace Go.Proofs.Ytaoiafbjnpigaaa
open Go.RowKit

theorem rowIs_of (ns : List Int) : ∃ xs er, RowIs ns xs er := by
  by_cases h : ∃ n ∈ ns, n < 0 ∨ 1099511627776 < n
  · exact ⟨[], 2, .inr ⟨h, rfl, rfl⟩⟩
  · refine ⟨_, 0, .inl ⟨ns.map Int.toNat, ?_, ?_, rfl, rfl⟩⟩
    · rw [List.map_map]
      conv => lhs; rw [← List.map_id ns]
      apply List.map_congr_left
      intro n hn
      have : ¬ (n < 0 ∨ 1099511627776 < n) := fun hb => h ⟨n, hn, hb⟩
      simp
      omega
    · intro m hm
      rw [List.mem_map] at hm
      obtain ⟨n, hn, rfl⟩ := hm
      have : ¬ (n < 0 ∨ 1099511627776 < n) := fun hb => h ⟨n, hn, hb⟩
      omega
theorem readIs_of (bs : List UInt8) : ∃ ms er, ReadIs bs ms er := by
  rcases h : VP.readRow bs with _ | ms
  · exact ⟨[], 70, .inr ⟨h, rfl, rfl⟩⟩
  · exact ⟨ms, 0, .inl ⟨h, rfl⟩⟩
theorem readRow_small {bs : List UInt8} {ms : List Nat} {er : Int} (h : ReadIs bs ms er) : ms.length ≤ bs.length ∧ ∀ m ∈ ms, m ≤ 1099511627776 := by
  rcases h with ⟨h, _⟩ | ⟨_, h, _⟩
  · unfold VP.readRow at h
    rcases hd : VP.dec bs with _ | ⟨cnt, k⟩
    · rw [hd] at h; cases h
    · rw [hd] at h
      simp only at h
      rcases ht : VP.takes cnt (bs.drop k) with _ | ⟨ns, k'⟩
      · rw [ht] at h; cases h
      · rw [ht] at h
        simp only at h
        obtain ⟨h1, h2, h3, h4⟩ := VP.takes_le _ _ _ _ ht
        rw [List.length_drop] at h3
        split at h
        · injection h with h; subst h; exact ⟨by omega, h4⟩
        · cases h
  · subst h; simp

set_option maxRecDepth 100000 in
set_option maxHeartbeats 1000000 in
theorem rows_in (L A : Option Addr) (cl c : Nat) (ns : List Int) (bs : List UInt8) (ln lb : Nat) (w : World) (hln : ln = ns.length) (hlb : lb = bs.length) (hsl : Seen w w.heap.size L (ns.map (Value.int .i64))) (hsb : Seen w w.heap.size A (cells bs)) (hx : ln ≤ 300) (hy : lb ≤ 2000) (hc : lb ≤ c) :
    Calls Try.prog 4 #[.slice L ln cl, .slice A lb c] w fun e w' => e = .returned (.bool true) ∧ Below w.heap.size w w' := by
  obtain ⟨xs, er, hr⟩ := rowIs_of ns
  obtain ⟨ms, er2, hd⟩ := readIs_of bs
  obtain ⟨lx, hlx⟩ : ∃ lx, lx = xs.length := ⟨_, rfl⟩
  obtain ⟨lm, hlm⟩ : ∃ lm, lm = ms.length := ⟨_, rfl⟩
  have hm2 : lm ≤ 2000 := by have := (readRow_small hd).1; omega
  have HR := Lib.hid hr
  have HD := Lib.hid hd
  have HX := Lib.hid hlx
  have HM := Lib.hid hlm
  have HN := Lib.hid hln
  have HB := Lib.hid hlb
  clear hr hd hlx hlm hln hlb
  go_enter Try.func4, Try.ntmps4
  go_wp2_with fail
  refine (row_all L cl ns ln xs er lx _ HR.out HN.out HX.out hsl hx).mono ?_
  rintro e w1 ⟨A1, c1, rfl, hs1, hc1, hb1⟩
  go_wp2_with fail
  refine (ref_row_all L cl ns ln xs er lx _ HR.out HN.out HX.out ((hsl.below hb1).up hb1.size) hx).mono ?_
  rintro e w2 ⟨A2, c2, rfl, hs2, hc2, hb2⟩
  have hbw2 := hb1.trans (hb2.mono hb1.size)
  go_wp2_with fail
  refine (readrow_all A c bs lb ms er2 lm _ HD.out HB.out HM.out ((hsb.below hbw2).up hbw2.size) (by omega) hc).mono ?_
  rintro e w3 ⟨A3, c3, rfl, hs3, hc3, hb3⟩
  have hbw3 := hbw2.trans (hb3.mono hbw2.size)
  go_wp2_with fail
  refine (ref_readrow_all A c bs lb ms er2 lm _ HD.out HB.out HM.out ((hsb.below hbw3).up hbw3.size) (by omega)).mono ?_
  rintro e w4 ⟨A4, c4, rfl, hs4, hc4, hb4⟩
  have hbw4 := hbw3.trans (hb4.mono hbw3.size)
  have hb24 := hb3.trans (hb4.mono hb3.size)
  have hst1 := str_now (P := Try.prog) ((hs1.below hb2).below (hb24.mono hb2.size)) 22 9 5 lx c1 HX.out Try.underlying22 Try.underlying5 Try.underlying9
  have hst2 := str_now (P := Try.prog) (hs2.below hb24) 22 9 5 lx c2 HX.out Try.underlying22 Try.underlying5 Try.underlying9
  have hs34 := (hs3.below hb4).up hb4.size
  have e1 : (xs == xs) = true := by simp
  have e2 : (er == er) = true := by simp
  have e3 : (er2 == er2) = true := by simp
  clear hsl hsb hs1 hs2 hs3 hb1 hb2 hb3 hb4 hbw2 hbw3 hb24
  go_wp2_with fail
  refine (ints_same A3 A4 c3 c4 ms lm _ _ HM.out hs34 hs4 (by omega)).mono ?_
  rintro e w5 ⟨rfl, q, rfl⟩
  clear hst1 hst2 hs34 hs4
  go_wp2_with fail
  refine (wakes_any _).mono ?_
  rintro e w6 ⟨rfl, hb6⟩
  go_wp2
  go_ret
  exact ⟨rfl, (below_drewN hbw4 q).trans (hb6.mono (below_drewN hbw4 q).size)⟩

set_option maxRecDepth 100000 in
theorem rows_long (L A : Option Addr) (cl c ln lb : Nat) (w : World) (hx : 300 < ln ∨ 2000 < lb) (hl : ln ≤ 9223372036854775807) (hb : lb ≤ 9223372036854775807) :
    Calls Try.prog 4 #[.slice L ln cl, .slice A lb c] w fun e w' => e = .returned (.bool true) ∧ Below w.heap.size w w' := by
  by_cases h1 : 300 < ln
  · go_enter Try.func4, Try.ntmps4
    go_wp2_with fail
    refine (wakes_any _).mono ?_
    rintro e w1 ⟨rfl, hb⟩
    go_wp2
    go_ret
    exact ⟨rfl, hb⟩
  · have h2 : 2000 < lb := by omega
    have h1' : ln ≤ 300 := by omega
    clear hx h1
    go_enter Try.func4, Try.ntmps4
    go_wp2_with fail
    refine (wakes_any _).mono ?_
    rintro e w1 ⟨rfl, hb⟩
    go_wp2
    go_ret
    exact ⟨rfl, hb⟩

theorem rows_walk (a0 : Option Addr) (len0 cap0 : Nat) (z0 : List Int) (a1 : Option Addr) (len1 cap1 : Nat) (z1 : List Int) (w : World) (w0 : IsRow .i64 w a0 len0 cap0 z0) (w1 : IsRow .u8 w a1 len1 cap1 z1) :
    Calls Try.prog 4 #[.slice a0 len0 cap0, .slice a1 len1 cap1] w fun e w' => e = .returned (.bool true) ∧ Below w.heap.size w w' := by
  obtain ⟨ns, hln, hsl, hl, hm, _⟩ := ints_in w0
  obtain ⟨bs, hlb, hsb, hl', hm'⟩ := bytes_in w1
  unfold maxLen at hm hm'
  by_cases hx : 300 < len0 ∨ 2000 < len1
  · exact rows_long a0 a1 cap0 cap1 len0 len1 w hx (by omega) (by omega)
  · exact rows_in a0 a1 cap0 cap1 ns bs len0 len1 w hln hlb hsl hsb (by omega) (by omega) hl'

end Go.Proofs.Ytaoiafbjnpigaaa
