/-
  The law FileCut: its walk. Conditions: those that each theorem names.
-/
import Derived.Test.YtpppeadmhfggkaaDoorFilOne
import Derived.Test.YtpppeadmhfggkaaDoorFilTexts
namespace Go.Proofs.YtpppeadmhfggkaaDoor
open Go.RowKit DP

theorem none_mild (cap : Int) : Mild ⟨[], cap, -1, false⟩ := ⟨⟨by simp, by simp⟩, by simp only; omega, by simp only; omega⟩
theorem one_mild (cap : Int) (b : ByteArray) (s : Int) (h : b.size ≤ 400000) : Mild ⟨[⟨wkA, b, s⟩], cap, -1, false⟩ := by
  refine ⟨⟨by simp, fun f hf => ?_⟩, by simp only; omega, by simp only; omega⟩
  rw [List.mem_singleton] at hf
  subst hf
  exact ⟨h, by show (1 : Nat) ≤ 100; omega⟩

section
variable (LA : Option Addr) (ln lc : Nat) (a : Int) (ls : List (List UInt8)) (w : World)

set_option maxRecDepth 100000 in
set_option maxHeartbeats 1000000 in
/-- The ways on which the law asks wakes at once. -/
theorem cut_great (hl : ln = ls.length) (hls : Seen w w.heap.size LA (strs ls)) (hlm : ln ≤ 9223372036854775807) (hlz : ∀ x ∈ ls, x.length ≤ 9223372036854775807) (hG : Glob w) (hgr : 100 < ln ∨ greatL ls = true) :
    Calls Tryd.prog 5 #[.slice LA ln lc, .int .i64 a] w fun e w' => e = .returned (.bool true) ∧ Below w.heap.size w w' := by
  have HL := Lib.hid hl
  have HG := Lib.hid hG
  have HLZ := Lib.hid hlz
  clear hl hG hlz
  by_cases h100 : 100 < ln
  · clear hgr
    go_enter Tryd.func5, Tryd.ntmps5
    go_wp2_with fail
    refine (wakes_any _ HG.out).mono ?_
    rintro e w2 ⟨rfl, hb2⟩
    go_wp2
    go_ret
    exact ⟨rfl, hb2⟩
  · have HGL : Hid (greatL ls = true) := Lib.hid (hgr.resolve_left h100)
    have hd100 : decide ((100 : Int) < (ln : Int)) = false := decide_eq_false (by omega)
    clear hgr h100
    go_enter Tryd.func5, Tryd.ntmps5
    go_wp2_with fail
    refine (greatL_any LA ln lc w.heap.size ls true _ HL.out HGL.out hls hlm HLZ.out).mono ?_
    rintro e w1' ⟨rfl, rfl⟩
    go_wp2_with fail
    refine (wakes_any _ HG.out).mono ?_
    rintro e w2 ⟨rfl, hb2⟩
    go_wp2
    go_ret
    exact ⟨rfl, hb2⟩

set_option maxRecDepth 100000 in
set_option maxHeartbeats 1000000 in
/-- .. behind Bytes. -/
theorem cut_short (hl : ln = ls.length) (hls : Seen w w.heap.size LA (strs ls)) (h100 : ln ≤ 100) (hgl : greatL ls = false) (hG : Glob w) (hno : fits ls = false ∨ (FP.sum ls = 0 ∨ 65536 < FP.sum ls)) :
    Calls Tryd.prog 5 #[.slice LA ln lc, .int .i64 a] w fun e w' => e = .returned (.bool true) ∧ Below w.heap.size w w' := by
  have HL := Lib.hid hl
  have HG := Lib.hid hG
  have HGL := Lib.hid hgl
  have h3000 := greatL_no hgl
  have hlz : ∀ x ∈ ls, x.length ≤ 9223372036854775807 := fun x hx => by have := h3000 x hx; omega
  have hlz' : ∀ x ∈ ls, x.length ≤ 140737488351232 := fun x hx => by have := h3000 x hx; omega
  have HLZ := Lib.hid hlz
  have HLZ' := Lib.hid hlz'
  have hd100 : decide ((100 : Int) < (ln : Int)) = false := decide_eq_false (by omega)
  clear hl hG hlz hlz' hgl h3000
  cases hf : fits ls with
  | false =>
    have hby := fun W h1 h2 => fbytes_any LA ln lc w.heap.size ls W HL.out.symm h100 HLZ'.out h1 h2
    rw [flatS_no hf, flatE_no hf] at hby
    have HBY := Lib.hid hby
    clear hby hf hno
    go_enter Tryd.func5, Tryd.ntmps5
    go_wp2_with fail
    refine (greatL_any LA ln lc w.heap.size ls false _ HL.out HGL.out hls (by omega) HLZ.out).mono ?_
    rintro e w1' ⟨rfl, rfl⟩
    go_wp2_with fail
    refine (HBY.out _ hls (Nat.le_refl _)).mono ?_
    rintro e w1 ⟨rfl, hb1⟩
    go_wp2_with fail
    refine (wakes_any _ (HG.out.next hb1)).mono ?_
    rintro e w2 ⟨rfl, hb2⟩
    have hb2' := hb1.trans (hb2.mono hb1.size)
    go_wp2
    go_ret
    exact ⟨rfl, hb2'⟩
  | true =>
    have hz : (str (FP.flat ls)).size = FP.sum ls := by rw [str_size, FP.flat_length]
    have hby := fun W h1 h2 => fbytes_any LA ln lc w.heap.size ls W HL.out.symm h100 HLZ'.out h1 h2
    rw [flatS_yes hf, flatE_yes hf] at hby
    have hno' : FP.sum ls = 0 ∨ 65536 < FP.sum ls := by
      rcases hno with h | h
      · rw [hf] at h; cases h
      · exact h
    obtain ⟨b, hb⟩ : ∃ b, b = str (FP.flat ls) := ⟨_, rfl⟩
    rw [← hb] at hby hz
    rw [← hz] at hno'
    have HBY := Lib.hid hby
    clear hby hf hno hb hz
    by_cases h0 : b.size = 0
    · obtain rfl : b = { data := #[] } := eq_none.2 h0
      clear hno' h0
      go_enter Tryd.func5, Tryd.ntmps5
      go_wp2_with fail
      refine (greatL_any LA ln lc w.heap.size ls false _ HL.out HGL.out hls (by omega) HLZ.out).mono ?_
      rintro e w1' ⟨rfl, rfl⟩
      go_wp2_with fail
      refine (HBY.out _ hls (Nat.le_refl _)).mono ?_
      rintro e w1 ⟨rfl, hb1⟩
      go_wp2_with fail
      refine (wakes_any _ (HG.out.next hb1)).mono ?_
      rintro e w2 ⟨rfl, hb2⟩
      have hb2' := hb1.trans (hb2.mono hb1.size)
      go_wp2
      go_ret
      exact ⟨rfl, hb2'⟩
    · have hgt : 65536 < b.size := by omega
      obtain ⟨hne, _⟩ := full_ways (s := b) (by omega)
      clear hno' h0
      go_enter Tryd.func5, Tryd.ntmps5
      go_wp2_with fail
      refine (greatL_any LA ln lc w.heap.size ls false _ HL.out HGL.out hls (by omega) HLZ.out).mono ?_
      rintro e w1' ⟨rfl, rfl⟩
      go_wp2_with fail
      refine (HBY.out _ hls (Nat.le_refl _)).mono ?_
      rintro e w1 ⟨rfl, hb1⟩
      go_wp2_with fail
      refine (wakes_any _ (HG.out.next hb1)).mono ?_
      rintro e w2 ⟨rfl, hb2⟩
      have hb2' := hb1.trans (hb2.mono hb1.size)
      go_wp2
      go_ret
      exact ⟨rfl, hb2'⟩

set_option maxRecDepth 100000 in
set_option maxHeartbeats 1000000 in
theorem cut_main (hl : ln = ls.length) (hlc : ln ≤ lc) (hls : Seen w w.heap.size LA (strs ls)) (h100 : ln ≤ 100) (hgl : greatL ls = false) (hG : Glob w) (hf : fits ls = true) (h0 : 0 < FP.sum ls) (h1 : FP.sum ls ≤ 65536) :
    Calls Tryd.prog 5 #[.slice LA ln lc, .int .i64 a] w fun e w' => e = .returned (.bool true) ∧ Below w.heap.size w w' := by
  have HL := Lib.hid hl
  have HG := Lib.hid hG
  have HGL := Lib.hid hgl
  have h3000 := greatL_no hgl
  have hlz : ∀ x ∈ ls, x.length ≤ 9223372036854775807 := fun x hx => by have := h3000 x hx; omega
  have hlz' : ∀ x ∈ ls, x.length ≤ 140737488351232 := fun x hx => by have := h3000 x hx; omega
  have HLZ := Lib.hid hlz
  have HLZ' := Lib.hid hlz'
  have hd100 : decide ((100 : Int) < (ln : Int)) = false := decide_eq_false (by omega)
  clear hl hG hlz hlz' hgl h3000
  have hz : (str (FP.flat ls)).size = FP.sum ls := by rw [str_size, FP.flat_length]
  have hby := fun W h1 h2 => fbytes_any LA ln lc w.heap.size ls W HL.out.symm h100 HLZ'.out h1 h2
  rw [flatS_yes hf, flatE_yes hf] at hby
  obtain ⟨N, hN, hNle⟩ := cut_mod a (FP.sum ls) (by omega)
  obtain ⟨k, hk, hks, hrows, htorn⟩ := cut_rows hf hNle
  obtain ⟨b, hb⟩ : ∃ b, b = str (FP.flat ls) := ⟨_, rfl⟩
  rw [← hb] at hby hz hrows htorn
  rw [← hz] at h0 h1 hN hNle
  have HBY := Lib.hid hby
  have HROWS := Lib.hid hrows
  have HTORN := Lib.hid htorn
  have HF := Lib.hid hf
  have HZ := Lib.hid hz
  obtain ⟨hne, _⟩ := full_ways (s := b) h0
  have hd65 : decide ((65536 : Int) < (b.size : Int)) = false := decide_eq_false (by omega)
  clear hby hf hb hz hrows htorn
  go_enter Tryd.func5, Tryd.ntmps5
  go_wp2_with fail
  refine (greatL_any LA ln lc w.heap.size ls false _ HL.out HGL.out hls (by omega) HLZ.out).mono ?_
  rintro e w1' ⟨rfl, rfl⟩
  go_wp2_with fail
  refine (HBY.out _ hls (Nat.le_refl _)).mono ?_
  rintro e w1 ⟨rfl, hb1⟩
  go_wp2_with fail
  refine (new_any 65536 65536 (-1) [] false 0 _ (by rfl)).mono ?_
  rintro e w2 ⟨A2, m2, c2, rfl, hl2, hs2, hc2, hb2⟩
  have hb2' := hb1.trans (hb2.mono hb1.size)
  have HL2 := Lib.hid hl2
  clear hl2
  by_cases hN0 : N = 0
  · subst hN0
    have hbt := bel1 w2 #[.slice A2 m2 c2, .int .i64 65536, .int .i64 (-1), .bool false] 24
    have hbw := hb2'.trans (hbt.mono hb2'.size)
    go_wp2_with fail
    refine (wakes_any _ (HG.out.next hbw)).mono ?_
    rintro e w3 ⟨rfl, hb3⟩
    have hb3' := hbw.trans (hb3.mono hbw.size)
    go_wp2
    go_ret
    exact ⟨rfl, hb3'⟩
  · have hNpos : 0 < N := by omega
    have hdN : ((N : Int) == 0) = false := by simp; omega
    have hbt := bel1 w2 #[.slice A2 m2 c2, .int .i64 65536, .int .i64 (-1), .bool false] 24
    have hbw := hb2'.trans (hbt.mono hb2'.size)
    have hd0 := DkAt.new (d := ⟨[], 65536, -1, false⟩) (w6 := w2) HL2.out hs2 hc2
    obtain ⟨x, hx⟩ : ∃ x, x = b.extract 0 N := ⟨_, rfl⟩
    have hxs : x.size = N := by rw [hx, ByteArray.size_extract]; omega
    have hdo : does ⟨[], 65536, -1, false⟩ ⟨2, wkA, x, 0⟩ = (⟨[⟨wkA, x, (x.size : Int)⟩], 65536, -1, false⟩, 0) :=
      none_does (by omega) (by omega) (isOp_rep (by omega)) rfl (by simp only; omega) rfl (by rfl) (by omega) (by omega)
    rw [hx] at hdo
    have HDO := Lib.hid hdo
    have HX := Lib.hid hx
    have HXS := Lib.hid hxs
    have HD0 := Lib.hid hd0
    clear hx hxs hdo hd0 hN0 hbt hb1 hb2 hs2 hc2
    go_upto_region 11 with fail
    have hd0 := HD0.out
    obtain ⟨g, hg⟩ : ∃ g, g = w2.heap.size := ⟨_, rfl⟩
    obtain ⟨W0, hW0⟩ : ∃ W0, W0 = w2.alloc (.cells #[.slice A2 m2 c2, .int .i64 65536, .int .i64 (-1), .bool false] 24) := ⟨_, rfl⟩
    rw [← hg, ← hW0] at hd0
    rw [← hW0] at hbw
    rw [← hg, ← hW0]
    have hg0 : w.heap.size ≤ g := by rw [hg]; exact hb2'.size
    clear hg hW0 HD0 hb2'
    obtain ⟨hl0, hs0, hc0, v0⟩ := hd0
    have HL0 := Lib.hid hl0
    have hbd : Below W0.heap.size W0 W0.drew := (Below.refl _ W0).drew
    obtain ⟨d0, d1, d2, d3, f0⟩ := v0.cells4
    clear hl0
    go_cut [6] (fun sx wx => sx = .int .i64 0 ∧ (∃ A m c, DkAt ⟨[⟨wkA, b.extract 0 N, ((b.extract 0 N).size : Int)⟩], 65536, -1, false⟩ A m c g wx) ∧ Below w.heap.size w wx)
    case first =>
      go_region_with (go_at_call 17; refine (do_any A2 m2 c2 W0.heap.size _ _ 65536 (-1) 65536 (-1) false false 2 wkA (b.extract 0 N) 0 0 _ (HG.out.next hbw.drew) HL0.out (hs0.below hbd) (Nat.le_refl _) (none_mild 65536).1 (by decide) (by rw [← HX.out, HXS.out]; omega) (by decide) (by decide) HDO.out).mono ?_; rintro e w5 ⟨A5, m5, c5, rfl, hl5, hs5, hc5, hb5⟩; have HL5 := Lib.hid hl5; clear hl5; have v5 := Var.below v0 (hbd.trans hb5) v0.lt; obtain ⟨k0, k1, k2, k3, kf⟩ := v5.cells4)
      all_goals
        go_wp2_with fail
        go_meet
        exact ⟨rfl, ⟨A5, m5, c5, DkAt.step (d := ⟨[⟨wkA, b.extract 0 N, ((b.extract 0 N).size : Int)⟩], 65536, -1, false⟩) HL5.out hs5 hc5 v5 disk_noText⟩, (hbw.trans ((hbd.trans hb5).mono hbw.size)).trans (set4_below hg0)⟩
    case rest =>
    obtain ⟨rfl, ⟨A6, m6, c6, hd6⟩, hb6⟩ := hcut
    obtain ⟨W6, hW6⟩ : ∃ W6, W6 = wc := ⟨_, rfl⟩
    rw [← hW6] at hd6 hb6 ⊢
    clear hN hW6 hbw hs0 hc0 v0 d0 d1 d2 d3 f0 HL0 hbd
    obtain ⟨hl6, hs6, hc6, v6⟩ := hd6
    have HL6 := Lib.hid hl6
    obtain ⟨d0, d1, d2, d3, f6⟩ := v6.cells4
    have hfl := fun W h1 h2 => floads_any A6 m6 c6 W6.heap.size [⟨wkA, b.extract 0 N, ((b.extract 0 N).size : Int)⟩] 65536 (-1) false wkA W HL6.out h1 h2 (one_mild 65536 (b.extract 0 N) _ (by rw [← HX.out, HXS.out]; omega)).1
    have e1 : rowsIn ⟨[⟨wkA, b.extract 0 N, ((b.extract 0 N).size : Int)⟩], 65536, -1, false⟩ wkA = ls.take k := by unfold rowsIn; rw [one_get, HROWS.out]
    have e2 : tornIn ⟨[⟨wkA, b.extract 0 N, ((b.extract 0 N).size : Int)⟩], 65536, -1, false⟩ wkA = N - FP.sum (ls.take k) := by unfold tornIn; rw [one_get, HTORN.out]
    rw [e1, e2] at hfl
    obtain ⟨t, ht⟩ : ∃ t, t = N - FP.sum (ls.take k) := ⟨_, rfl⟩
    obtain ⟨q, hq⟩ : ∃ q, q = FP.sum (ls.take k) := ⟨_, rfl⟩
    have hkl : (ls.take k).length = k := by rw [List.length_take]; omega
    have hkn : k ≤ ln := by rw [HL.out]; exact hk
    have hcn : ¬ ln < k := by omega
    have hfk := fits_take k HF.out
    have hqs : (str (FP.flat (ls.take k))).size = q := by rw [str_size, FP.flat_length, hq]
    rw [← ht] at hfl
    rw [← hq] at ht hks
    have HFL := Lib.hid hfl
    have HKL := Lib.hid hkl
    have HT := Lib.hid ht
    have HKS := Lib.hid hks
    have HFK := Lib.hid hfk
    have HQS := Lib.hid hqs
    clear hfl e1 e2 hl6 hkl ht hfk hqs hq hks
    go_wp2_with fail
    refine (HFL.out _ hs6 (Nat.le_refl _)).mono ?_
    rintro e w7 ⟨A7, n7, c7, rfl, hl7, hs7, hc7, hb7⟩
    rw [HKL.out] at hl7
    subst hl7
    have hb7' := hb6.trans (hb7.mono hb6.size)
    have hls7 := hls.below hb7'
    obtain ⟨D, hD, hsD⟩ := cut_upto HL.out hls7 lc hkn hlc
    have hsD' := hsD.up hb7'.size
    clear d0 d1 d2 d3 f6 hs6 hc6 v6 hb7 hb6 hls7 hsD
    go_wp2_with fail
    refine (texts_any A7 D c7 lc k k (ls.take k) (ls.take k) _ HKL.out.symm HKL.out.symm hs7 hsD' (by omega) (by omega)).mono ?_
    rintro e w8 ⟨rfl, qq, rfl⟩
    have hb8 : Below w.heap.size w (w7.drewN qq) := hb7'.drewN' qq
    rw [decide_eq_true rfl]
    have hby := fun W h1 h2 => fbytes_any A7 k c7 w7.heap.size (ls.take k) W HKL.out (by omega) (fun x hx => HLZ'.out x (List.mem_of_mem_take hx)) h1 h2
    rw [flatS_yes HFK.out, flatE_yes HFK.out] at hby
    obtain ⟨fr, hfr⟩ : ∃ fr, fr = str (FP.flat (ls.take k)) := ⟨_, rfl⟩
    rw [← hfr] at hby
    have hfq : fr.size = q := by rw [hfr]; exact HQS.out
    have HBY2 := Lib.hid hby
    have HFQ := Lib.hid hfq
    clear hby hfr hfq hD hsD'
    go_wp2_with fail
    refine (HBY2.out (w7.drewN qq) (hs7.below ((Below.refl _ w7).drewN' qq)) (by simp)).mono ?_
    rintro e w9 ⟨rfl, hb9⟩
    have hb9' := hb8.trans (hb9.mono hb8.size)
    have hwr : wrap64 ((fr.size : Int) + (t : Int)) = (N : Int) := by
      have h1 := HFQ.out
      have h2 := HT.out
      have h4 := HKS.out
      have h3 : (fr.size : Int) + (t : Int) = (N : Int) := by omega
      rw [h3]
      exact wrap_fits (by omega) (by omega)
    by_cases hkln : k = ln
    · have hd1 : ((k : Int) == (ln : Int)) = true := by rw [beq_nat]; exact decide_eq_true hkln
      clear hkln hkn hcn
      go_wp2_with fail
      refine (wakes_any _ (HG.out.next hb9')).mono ?_
      rintro e w10 ⟨rfl, hb10⟩
      have hb10' := hb9'.trans (hb10.mono hb9'.size)
      go_wp2
      go_ret
      exact ⟨rfl, hb10'⟩
    · have hd1 : ((k : Int) == (ln : Int)) = false := by rw [beq_nat]; exact decide_eq_false hkln
      by_cases ht0 : 0 < t
      · clear hkln hkn hcn
        go_wp2_with fail
        refine (wakes_any _ (HG.out.next hb9')).mono ?_
        rintro e w10 ⟨rfl, hb10⟩
        have hb10' := hb9'.trans (hb10.mono hb9'.size)
        go_wp2
        go_ret
        exact ⟨rfl, hb10'⟩
      · have hNf : N = fr.size := sum_cut HFQ.out HT.out HKS.out ht0
        have ht00 : t = 0 := Nat.eq_zero_of_not_pos ht0
        subst ht00
        subst hNf
        have hwf : wrap64 (fr.size : Int) = (fr.size : Int) := wrap_fits (Int.natCast_nonneg _) (Int.le_trans (Int.ofNat_le.2 (Nat.le_trans hNle h1)) (by decide))
        clear hkln hkn hcn ht0 hwr
        go_wp2_with fail
        refine (wakes_any _ (HG.out.next hb9')).mono ?_
        rintro e w10 ⟨rfl, hb10⟩
        have hb10' := hb9'.trans (hb10.mono hb9'.size)
        go_wp2
        go_ret
        exact ⟨rfl, hb10'⟩
theorem cut_walk (hl : ln = ls.length) (hlc : ln ≤ lc) (hls : Seen w w.heap.size LA (strs ls)) (hlm : ln ≤ 9223372036854775807) (hlz : ∀ x ∈ ls, x.length ≤ 9223372036854775807) (hG : Glob w) :
    Calls Tryd.prog 5 #[.slice LA ln lc, .int .i64 a] w fun e w' => e = .returned (.bool true) ∧ Below w.heap.size w w' := by
  by_cases hgr : 100 < ln ∨ greatL ls = true
  · exact cut_great LA ln lc a ls w hl hls hlm hlz hG hgr
  · have h100 : ln ≤ 100 := by omega
    have hgl : greatL ls = false := by
      cases h : greatL ls
      · rfl
      · exact absurd (.inr h) hgr
    by_cases hno : fits ls = false ∨ (FP.sum ls = 0 ∨ 65536 < FP.sum ls)
    · exact cut_short LA ln lc a ls w hl hls h100 hgl hG hno
    · have hf : fits ls = true := by
        cases h : fits ls
        · exact absurd (.inl h) hno
        · rfl
      exact cut_main LA ln lc a ls w hl hlc hls h100 hgl hG hf (by omega) (by omega)
theorem cut_all (hw : ∃ ls : List (List UInt8), ln = ls.length ∧ Seen w w.heap.size LA (strs ls) ∧ (∀ l ∈ ls, l.length ≤ maxLen) ∧ ln ≤ lc ∧ lc ≤ maxLen) (hG : Glob w) :
    Calls Tryd.prog 5 #[.slice LA ln lc, .int .i64 a] w fun e w' => e = .returned (.bool true) ∧ Below w.heap.size w w' := by
  obtain ⟨ls, h1, h2, h3, h4, h5⟩ := hw
  have hml : maxLen ≤ 9223372036854775807 := by decide
  exact cut_walk LA ln lc a ls w h1 h4 h2 (Nat.le_trans (Nat.le_trans h4 h5) hml) (fun x hx => Nat.le_trans (h3 x hx) hml) hG
end
end Go.Proofs.YtpppeadmhfggkaaDoor
