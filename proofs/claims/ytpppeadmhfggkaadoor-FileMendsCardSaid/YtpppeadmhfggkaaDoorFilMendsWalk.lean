/-
  The law FileMends: its walk. Conditions: those that each theorem names.
-/
import Derived.Test.YtpppeadmhfggkaaDoorFilMendPlain
import Derived.Test.YtpppeadmhfggkaaDoorFilWakes
import Derived.Test.YtpppeadmhfggkaaDoorFilTexts
namespace Go.Proofs.YtpppeadmhfggkaaDoor
open Go.RowKit DP

section
variable (A : Option Addr) (n c : Nat) (fs : List Fl) (cap left : Int) (down : Bool) (name other : ByteArray) (w : World)

set_option maxRecDepth 100000 in
set_option maxHeartbeats 1000000 in
/-- The ways on which the law asks wakes at once. -/
theorem mends_aside (hn : fs.length = n) (hs : Seen w w.heap.size A (fcells fs)) (hmax : n ≤ 9223372036854775807) (hsz : ∀ f ∈ fs, f.b.size ≤ 9223372036854775807 ∧ f.n.size ≤ 9223372036854775807) (hG : Glob w)
    (hno : great ⟨fs, cap, left, down⟩ = true ∨ (check ⟨fs, cap, left, down⟩ = false ∨ (down = true ∨ 0 ≤ left))) :
    Calls Tryd.prog 6 #[.agg #[.slice A n c, .int .i64 cap, .int .i64 left, .bool down], .string name, .string other] w fun e w' => e = .returned (.bool true) ∧ Below w.heap.size w w' := by
  have HN := Lib.hid hn
  have HG := Lib.hid hG
  have HSZ := Lib.hid hsz
  clear hn hG hsz
  have hb0 := bel1 w #[.slice A n c, .int .i64 cap, .int .i64 left, .bool down] 24
  have v0 := new1 w #[.slice A n c, .int .i64 cap, .int .i64 left, .bool down] 24
  cases hgr : great ⟨fs, cap, left, down⟩ with
  | true =>
    have HGR := Lib.hid hgr
    clear hgr v0 hno
    go_enter Tryd.func6, Tryd.ntmps6
    go_wp2_with fail
    refine (great_any A n c w.heap.size fs cap left down true _ HN.out HGR.out (hs.below hb0) (by simp) hmax HSZ.out).mono ?_
    rintro e w1 ⟨rfl, hb1⟩
    have hb1' := hb0.trans (hb1.mono (by simp))
    go_wp2_with fail
    refine (wakes_any _ (HG.out.next hb1')).mono ?_
    rintro e w2 ⟨rfl, hb2⟩
    have hb2' := hb1'.trans (hb2.mono hb1'.size)
    go_wp2
    go_ret
    exact ⟨rfl, hb2'⟩
  | false =>
    have HGR := Lib.hid hgr
    have hsm := great_small hgr
    have hno' := hno.resolve_left (by rw [hgr]; simp)
    clear hgr hno
    cases hck : check ⟨fs, cap, left, down⟩ with
    | false =>
      have HCK : Hid (code (check ⟨fs, cap, left, down⟩) = 2) := by show _ = _; rw [hck]; rfl
      clear hck hno'
      go_enter Tryd.func6, Tryd.ntmps6
      go_wp2_with fail
      refine (great_any A n c w.heap.size fs cap left down false _ HN.out HGR.out (hs.below hb0) (by simp) hmax HSZ.out).mono ?_
      rintro e w1 ⟨rfl, hb1⟩
      have hb1' := hb0.trans (hb1.mono (by simp))
      have v1 := Var.below v0 hb1 (by simp)
      obtain ⟨d0, d1, d2, d3, f0⟩ := v1.cells4
      go_wp2_with fail
      refine (check_any A n c w.heap.size fs cap left down 2 _ HN.out HCK.out (hs.below hb1') hb1'.size hsm).mono ?_
      rintro e w1' ⟨rfl, hb1x⟩
      have hb1'' := hb1'.trans (hb1x.mono hb1'.size)
      clear d0 d1 d2 d3 f0
      go_wp2_with fail
      refine (wakes_any _ (HG.out.next hb1'')).mono ?_
      rintro e w2 ⟨rfl, hb2⟩
      have hb2' := hb1''.trans (hb2.mono hb1''.size)
      go_wp2
      go_ret
      exact ⟨rfl, hb2'⟩
    | true =>
      have HCK : Hid (code (check ⟨fs, cap, left, down⟩) = 0) := by show _ = _; rw [hck]; rfl
      have hno2 : down = true ∨ 0 ≤ left := hno'.resolve_left (by rw [hck]; simp)
      clear hck hno'
      cases down with
      | true =>
        clear hno2
        go_enter Tryd.func6, Tryd.ntmps6
        go_wp2_with fail
        refine (great_any A n c w.heap.size fs cap left true false _ HN.out HGR.out (hs.below hb0) (by simp) hmax HSZ.out).mono ?_
        rintro e w1 ⟨rfl, hb1⟩
        have hb1' := hb0.trans (hb1.mono (by simp))
        have v1 := Var.below v0 hb1 (by simp)
        obtain ⟨d0, d1, d2, d3, f0⟩ := v1.cells4
        go_wp2_with fail
        refine (check_any A n c w.heap.size fs cap left true 0 _ HN.out HCK.out (hs.below hb1') hb1'.size hsm).mono ?_
        rintro e w1' ⟨rfl, hb1x⟩
        have hb1'' := hb1'.trans (hb1x.mono hb1'.size)
        have v2 := Var.below v1 hb1x v1.lt
        clear d0 d1 d2 d3 f0
        obtain ⟨d0, d1, d2, d3, f0⟩ := v2.cells4
        go_wp2_with fail
        refine (wakes_any _ (HG.out.next hb1'')).mono ?_
        rintro e w2 ⟨rfl, hb2⟩
        have hb2' := hb1''.trans (hb2.mono hb1''.size)
        go_wp2
        go_ret
        exact ⟨rfl, hb2'⟩
      | false =>
        have hle : 0 ≤ left := hno2.resolve_left (by simp)
        have hld : decide (left < 0) = false := decide_eq_false (by omega)
        have hld2 : decide ((0 : Int) ≤ left) = true := decide_eq_true hle
        clear hno2
        go_enter Tryd.func6, Tryd.ntmps6
        go_wp2_with fail
        refine (great_any A n c w.heap.size fs cap left false false _ HN.out HGR.out (hs.below hb0) (by simp) hmax HSZ.out).mono ?_
        rintro e w1 ⟨rfl, hb1⟩
        have hb1' := hb0.trans (hb1.mono (by simp))
        have v1 := Var.below v0 hb1 (by simp)
        obtain ⟨d0, d1, d2, d3, f0⟩ := v1.cells4
        go_wp2_with fail
        refine (check_any A n c w.heap.size fs cap left false 0 _ HN.out HCK.out (hs.below hb1') hb1'.size hsm).mono ?_
        rintro e w1' ⟨rfl, hb1x⟩
        have hb1'' := hb1'.trans (hb1x.mono hb1'.size)
        have v2 := Var.below v1 hb1x v1.lt
        clear d0 d1 d2 d3 f0
        obtain ⟨d0, d1, d2, d3, f0⟩ := v2.cells4
        go_wp2_with fail
        refine (wakes_any _ (HG.out.next hb1'')).mono ?_
        rintro e w2 ⟨rfl, hb2⟩
        have hb2' := hb1''.trans (hb2.mono hb1''.size)
        go_wp2
        go_ret
        exact ⟨rfl, hb2'⟩

set_option maxRecDepth 100000 in
set_option maxHeartbeats 2000000 in
theorem mends_main (hn : fs.length = n) (hs : Seen w w.heap.size A (fcells fs)) (hmax : n ≤ 9223372036854775807) (hsz : ∀ f ∈ fs, f.b.size ≤ 9223372036854775807 ∧ f.n.size ≤ 9223372036854775807) (hG : Glob w) (hnm : name.size ≤ 9223372036854775807)
    (hgr : great ⟨fs, cap, left, false⟩ = false) (hck : check ⟨fs, cap, left, false⟩ = true) (hle : left < 0) (hlb : -9223372036854775808 ≤ left) :
    Calls Tryd.prog 6 #[.agg #[.slice A n c, .int .i64 cap, .int .i64 left, .bool false], .string name, .string other] w fun e w' => e = .returned (.bool true) ∧ Below w.heap.size w w' := by
  have HN := Lib.hid hn
  have HG := Lib.hid hG
  have HSZ := Lib.hid hsz
  have HGR := Lib.hid hgr
  have HCK : Hid (code (check ⟨fs, cap, left, false⟩) = 0) := by show _ = _; rw [hck]; rfl
  have hsm := great_small hgr
  have h100 : n ≤ 100 := by rw [← hn]; exact hsm.1
  obtain ⟨fs', hm1, hck', hrows, htorn, hoth⟩ := mends_is (d := ⟨fs, cap, left, false⟩) hck rfl hle name
  have hm2 := doAll_same (d := ⟨fs', cap, left, false⟩) htorn
  have hmild : Mild ⟨fs, cap, left, false⟩ := ⟨hsm, hlb, by simp only; omega⟩
  have hsm' := check_small hck'
  have hmild' : Mild ⟨fs', cap, left, false⟩ := ⟨hsm', hlb, by simp only; omega⟩
  obtain ⟨fn, fb, s, th, hg1⟩ := getRes_of fs other
  obtain ⟨fn2, fb2, s2, th2, hg2⟩ := getRes_of fs' other
  obtain ⟨ls, hls⟩ : ∃ ls, ls = rowsIn ⟨fs, cap, left, false⟩ name := ⟨_, rfl⟩
  obtain ⟨t, ht⟩ : ∃ t, t = tornIn ⟨fs, cap, left, false⟩ name := ⟨_, rfl⟩
  have hfl1 := fun W h1 h2 => floads_any A n c w.heap.size fs cap left false name W hn h1 h2 hsm
  rw [← hls, ← ht] at hfl1
  simp only at hrows htorn
  have hrm := rows_most (bytesIn ⟨fs, cap, left, false⟩ name) (m := 400000) (get_small hsm name)
  have hlen : ls.length ≤ 400000 := by rw [hls]; exact hrm
  have HFL1 := Lib.hid hfl1
  have HM1 := Lib.hid hm1
  have HM2 := Lib.hid hm2
  have HR := Lib.hid (hrows.trans hls.symm)
  have HT := Lib.hid htorn
  have HG1 := Lib.hid hg1
  have HG2 := Lib.hid hg2
  have HOTH := Lib.hid hoth
  have HSM' := Lib.hid hsm'
  have hln : decide ((0 : Int) ≤ left) = false := decide_eq_false (by omega)
  have hln2 : decide (left < 0) = true := decide_eq_true hle
  clear hn hG hsz hgr hck hm1 hm2 hrows htorn hls ht hg1 hg2 hoth hck' hfl1 hrm hsm'
  have hb0 := bel1 w #[.slice A n c, .int .i64 cap, .int .i64 left, .bool false] 24
  have v0 := new1 w #[.slice A n c, .int .i64 cap, .int .i64 left, .bool false] 24
  go_enter Tryd.func6, Tryd.ntmps6
  go_wp2_with fail
  refine (great_any A n c w.heap.size fs cap left false false _ HN.out HGR.out (hs.below hb0) (by simp) hmax HSZ.out).mono ?_
  rintro e w1 ⟨rfl, hb1⟩
  have hb1' := hb0.trans (hb1.mono (by simp))
  have v1 := Var.below v0 hb1 (by simp)
  obtain ⟨d0, d1, d2, d3, f0⟩ := v1.cells4
  go_wp2_with fail
  refine (check_any A n c w.heap.size fs cap left false 0 _ HN.out HCK.out (hs.below hb1') hb1'.size hsm).mono ?_
  rintro e w2 ⟨rfl, hb2⟩
  have hb2' := hb1'.trans (hb2.mono hb1'.size)
  have v2 := Var.below v1 hb2 v1.lt
  clear d0 d1 d2 d3 f0 hb1 hb2 v0 v1 hb1'
  obtain ⟨d0, d1, d2, d3, f0⟩ := v2.cells4
  -- its loads
  go_wp2_with fail
  refine (HFL1.out _ (hs.below hb2') hb2'.size).mono ?_
  rintro e w3 ⟨A3, n3, c3, rfl, hl3, hs3, hc3, hb3⟩
  have hb3' := hb2'.trans (hb3.mono hb2'.size)
  have v3 := Var.below v2 hb3 v2.lt
  have HL3 := Lib.hid hl3
  clear d0 d1 d2 d3 f0 hb3 v2 hb2' hl3
  obtain ⟨d0, d1, d2, d3, f0⟩ := v3.cells4
  -- mended
  go_wp2_with fail
  refine (fmend_any A n c w.heap.size fs cap left false name ⟨fs', cap, left, false⟩ none _ (HG.out.next hb3') HN.out (hs.below hb3') hb3'.size hmild hnm HM1.out).mono ?_
  rintro e w4 ⟨A4, m4, c4, ev4, rfl, hl4, hs4, hc4, hev4, hb4⟩
  obtain rfl : ev4 = .nilIface := hev4
  have hb4' := hb3'.trans (hb4.mono hb3'.size)
  have v4 := Var.below v3 hb4 v3.lt
  have hs3' := hs3.below hb4
  have HL4 := Lib.hid hl4
  have h104 : m4 ≤ 100 := by rw [← hl4]; exact HSM'.out.1
  have hz34 := hb4.size
  clear d0 d1 d2 d3 f0 hb4 v3 hb3' hl4 hs3
  have hb5 := bel1 w4 #[.slice A4 m4 c4, .int .i64 cap, .int .i64 left, .bool false] 24
  have u5 := new1 w4 #[.slice A4 m4 c4, .int .i64 cap, .int .i64 left, .bool false] 24
  have v5 := v4.alloc (.cells #[.slice A4 m4 c4, .int .i64 cap, .int .i64 left, .bool false] 24)
  have hs4' := hs4.below hb5
  have hs3'' := hs3'.below (hb5.mono hz34)
  have hb5' := hb4'.trans (hb5.mono hb4'.size)
  clear v4 hs4 hs3' hb4'
  go_wp2_with fail
  have hfl2 := fun W h1 h2 => floads_any A4 m4 c4 w4.heap.size fs' cap left false name W HL4.out h1 h2 HSM'.out
  rw [HR.out, HT.out] at hfl2
  refine (hfl2 _ hs4' (by simp)).mono ?_
  rintro e w6 ⟨A6, n6, c6, rfl, hl6, hs6, hc6, hb6⟩
  have hb6' := hb5'.trans (hb6.mono hb5'.size)
  have v6 := Var.below v5 hb6 v5.lt
  have u6 := Var.below u5 hb6 u5.lt
  have hz56 := hb5.size
  have hz6 := hb6.size
  have hs36 := hs3''.below (hb6.mono (Nat.le_trans hz34 hz56))
  have hs46 := hs4'.below (hb6.mono hz56)
  have HL6 := Lib.hid hl6
  have g36 : w3.heap.size ≤ w6.heap.size := Nat.le_trans hz34 (Nat.le_trans hz56 hz6)
  have g46 : w4.heap.size ≤ w6.heap.size := Nat.le_trans hz56 hz6
  clear hfl2 hb6 hl6 hs3'' hs4' v5 u5 hb5 hb5'
  obtain ⟨d0, d1, d2, d3, f0⟩ := u6.cells4
  go_wp2_with fail
  refine (fmend_any A4 m4 c4 w4.heap.size fs' cap left false name ⟨fs', cap, left, false⟩ none _ (HG.out.next hb6') HL4.out hs46 g46 hmild' hnm HM2.out).mono ?_
  rintro e w7 ⟨A7, m7, c7, ev7, rfl, hl7, hs7, hc7, hev7, hb7⟩
  obtain rfl : ev7 = .nilIface := hev7
  obtain rfl : m7 = m4 := hl7.symm.trans HL4.out
  have hb7' := hb6'.trans (hb7.mono hb6'.size)
  have v7 := Var.below v6 hb7 v6.lt
  have u7 := Var.below u6 hb7 u6.lt
  have hz7 := hb7.size
  have hs37 := hs36.below (hb7.mono g36)
  have hs47 := hs46.below (hb7.mono g46)
  have hs67 := hs6.below hb7
  clear d0 d1 d2 d3 f0 hb7 hl7 v6 u6 hs36 hs46 hs6 hb6'
  have hb8 := bel1 w7 #[.slice A7 m7 c7, .int .i64 cap, .int .i64 left, .bool false] 24
  have x8 := new1 w7 #[.slice A7 m7 c7, .int .i64 cap, .int .i64 left, .bool false] 24
  obtain ⟨w8, hw8⟩ : ∃ w8, w8 = w7.alloc (.cells #[.slice A7 m7 c7, .int .i64 cap, .int .i64 left, .bool false] 24) := ⟨_, rfl⟩
  rw [← hw8] at hb8 x8
  have v8 := Var.below v7 hb8 v7.lt
  have u8 := Var.below u7 hb8 u7.lt
  have hb8' := hb7'.trans (hb8.mono hb7'.size)
  have g38 : w3.heap.size ≤ w7.heap.size := Nat.le_trans g36 hz7
  have g48 : w4.heap.size ≤ w7.heap.size := Nat.le_trans g46 hz7
  have hs38 := hs37.below (hb8.mono g38)
  have hs48 := hs47.below (hb8.mono g48)
  have hs68 := hs67.below (hb8.mono hz7)
  have hs78 := hs7.below hb8
  have hs8 := hs.below hb8'
  obtain ⟨d0, d1, d2, d3, f0⟩ := v7.cells4
  have l7 := v7.lt
  have hz8 := hb8.size
  have HW8 := Lib.hid hw8
  clear hw8 hs37 hs47 hs67 hs7 v7 u7 hb7' hb8
  go_wp2_with fail
  rw [← HW8.out]
  refine (get_any A n c w.heap.size fs cap left false other fn fb s th _ HG1.out HN.out hs8 hb8'.size h100).mono ?_
  rintro e w9 ⟨rfl, hb9⟩
  have hb9' := hb8'.trans (hb9.mono hb8'.size)
  have u9 := Var.below u8 hb9 u8.lt
  have x9 := Var.below x8 hb9 x8.lt
  have hz9 := hb9.size
  have k38 : w3.heap.size ≤ w8.heap.size := Nat.le_trans g38 hz8
  have k48 : w4.heap.size ≤ w8.heap.size := Nat.le_trans g48 hz8
  have k68 : w6.heap.size ≤ w8.heap.size := Nat.le_trans hz7 hz8
  have hs39 := hs38.below (hb9.mono k38)
  have hs49 := hs48.below (hb9.mono k48)
  have hs69 := hs68.below (hb9.mono k68)
  have hs79 := hs78.below (hb9.mono hz8)
  clear d0 d1 d2 d3 f0 l7 hb9 hs38 hs48 hs68 hs78 hs8 v8 u8 x8 hb8'
  obtain ⟨d0, d1, d2, d3, f0⟩ := u9.cells4
  have l9 := u9.lt
  go_wp2_with fail
  have hbf := bel1 w9 #[.string fn, .string fb, .int .i64 s] 54
  have y9 := new1 w9 #[.string fn, .string fb, .int .i64 s] 54
  refine (get_any A4 m7 c4 w4.heap.size fs' cap left false other fn2 fb2 s2 th2 _ HG2.out HL4.out (hs49.below (hbf.mono (Nat.le_trans k48 hz9))) (by simp; omega) h104).mono ?_
  rintro e w10 ⟨rfl, hb10⟩
  have hb910 : Below w9.heap.size w9 w10 := hbf.trans (hb10.mono (by simp))
  have hb10' := hb9'.trans (hb910.mono hb9'.size)
  have u10 := Var.below u9 hb910 u9.lt
  have x10 := Var.below x9 hb910 x9.lt
  have y10 := Var.below y9 hb10 (by simp)
  have hz10 := hb910.size
  have k39 : w3.heap.size ≤ w9.heap.size := Nat.le_trans k38 hz9
  have k49 : w4.heap.size ≤ w9.heap.size := Nat.le_trans k48 hz9
  have k69 : w6.heap.size ≤ w9.heap.size := Nat.le_trans k68 hz9
  have k79 : w7.heap.size ≤ w9.heap.size := Nat.le_trans hz8 hz9
  have hs310 := hs39.below (hb910.mono k39)
  have hs410 := hs49.below (hb910.mono k49)
  have hs610 := hs69.below (hb910.mono k69)
  have hs710 := hs79.below (hb910.mono k79)
  clear d0 d1 d2 d3 f0 l9 hb10 hb910 hs39 hs49 hs69 hs79 u9 x9 y9 hbf hb9'
  go_wp2_with fail
  have hbf2 := bel1 w10 #[.string fn2, .string fb2, .int .i64 s2] 54
  have z10 := new1 w10 #[.string fn2, .string fb2, .int .i64 s2] 54
  have hb11 := hb10'.trans (hbf2.mono hb10'.size)
  have r3 := (hs310.below (hbf2.mono (Nat.le_trans k39 hz10))).up (show w3.heap.size ≤ (w10.alloc (.cells #[.string fn2, .string fb2, .int .i64 s2] 54)).heap.size by simp; omega)
  have r6 := (hs610.below (hbf2.mono (Nat.le_trans k69 hz10))).up (show w6.heap.size ≤ (w10.alloc (.cells #[.string fn2, .string fb2, .int .i64 s2] 54)).heap.size by simp; omega)
  refine (texts_any A3 A6 c3 c6 n3 n6 ls ls _ HL3.out.symm HL6.out.symm r3 r6 (by rw [← HL3.out]; omega) (by rw [← HL6.out]; omega)).mono ?_
  rintro e w11 ⟨rfl, q, rfl⟩
  rw [decide_eq_true rfl]
  have hbq : Below w10.heap.size w10 (((w10.alloc (.cells #[.string fn2, .string fb2, .int .i64 s2] 54))).drewN q) := hbf2.drewN' q
  have hb11' := hb11.drewN' q
  obtain ⟨W, hW⟩ : ∃ W, W = ((w10.alloc (.cells #[.string fn2, .string fb2, .int .i64 s2] 54))).drewN q := ⟨_, rfl⟩
  have z11 : Var W w10.heap.size 54 #[.string fn2, .string fb2, .int .i64 s2] := by rw [hW]; exact z10.drewN q
  rw [← hW] at hbq hb11' ⊢
  have u11 := Var.below u10 hbq u10.lt
  have x11 := Var.below x10 hbq x10.lt
  have y11 := Var.below y10 hbq y10.lt
  have t4 := hs410.below (hbq.mono (Nat.le_trans k49 hz10))
  have t7 := hs710.below (hbq.mono (Nat.le_trans k79 hz10))
  have hzW := hbq.size
  clear hW z10 hbf2 hbq hb11 hb10' u10 x10 y10 hs310 hs410 hs610 hs710 r3 r6
  obtain ⟨d0, d1, d2, d3, f0⟩ := u11.cells4
  obtain ⟨p0, p1, p2, p3, pf⟩ := x11.cells4
  go_wp2_with fail
  refine (same_self A4 A7 m7 c4 c7 W.heap.size fs' cap left false _ HL4.out (t4.up (by omega)) (t7.up (by omega)) (Nat.le_refl _) h104).mono ?_
  rintro e w12 ⟨rfl, hb12⟩
  have hb12' := hb11'.trans (hb12.mono hb11'.size)
  have y12 := Var.below y11 hb12 y11.lt
  have z12 := Var.below z11 hb12 z11.lt
  obtain ⟨i0, i1, i2, fi⟩ := y12.cells3
  obtain ⟨j0, j1, j2, fj⟩ := z12.cells3
  clear d0 d1 d2 d3 f0 p0 p1 p2 p3 pf t4 t7 u11 x11 y11 z11 y12 z12 hb12 hb11'
  by_cases hno : name = other
  · subst hno
    have e1 : (name.toList == name.toList) = true := beq_self_eq_true _
    go_wp2_with fail
    refine (wakes_any _ (HG.out.next hb12')).mono ?_
    rintro e w13 ⟨rfl, hb13⟩
    have hb13' := hb12'.trans (hb13.mono hb12'.size)
    go_wp2
    go_ret
    exact ⟨rfl, hb13'⟩
  · have e1 : (name.toList == other.toList) = false := by rw [eqS]; exact decide_eq_false hno
    have hgo := HOTH.out other hno
    obtain ⟨rfl, rfl, rfl, rfl⟩ : fn2 = fn ∧ fb2 = fb ∧ s2 = s ∧ th2 = th := by
      have h1 := HG1.out
      have h2 := HG2.out
      rcases h1 with ⟨rfl, h1⟩ | ⟨rfl, h1, rfl, rfl, rfl⟩ <;> rcases h2 with ⟨rfl, h2⟩ | ⟨rfl, h2, rfl, rfl, rfl⟩
      · rw [hgo, h1] at h2; simp at h2; exact ⟨h2.1.symm, h2.2.1.symm, h2.2.2.symm, rfl⟩
      · rw [hgo, h1] at h2; cases h2
      · rw [hgo, h1] at h2; cases h2
      · exact ⟨rfl, rfl, rfl, rfl⟩
    clear hno hgo
    have e2 : (fn2.toList == fn2.toList) = true := beq_self_eq_true _
    have e3 : (fb2.toList == fb2.toList) = true := beq_self_eq_true _
    have e4 : (s2 == s2) = true := beq_self_eq_true _
    have e5 : (th2 == th2) = true := beq_self_eq_true _
    have hgd : Tryd.prog.eqGuardType Tryd.prog.depth 54 = false := by kernel_rfl
    go_wp2_with fail
    refine (wakes_any _ (HG.out.next hb12')).mono ?_
    rintro e w13 ⟨rfl, hb13⟩
    have hb13' := hb12'.trans (hb13.mono hb12'.size)
    go_wp2
    go_ret
    exact ⟨rfl, hb13'⟩

theorem mends_walk (hn : fs.length = n) (hs : Seen w w.heap.size A (fcells fs)) (hmax : n ≤ 9223372036854775807) (hsz : ∀ f ∈ fs, f.b.size ≤ 9223372036854775807 ∧ f.n.size ≤ 9223372036854775807) (hG : Glob w) (hnm : name.size ≤ 9223372036854775807) (hlb : -9223372036854775808 ≤ left) :
    Calls Tryd.prog 6 #[.agg #[.slice A n c, .int .i64 cap, .int .i64 left, .bool down], .string name, .string other] w fun e w' => e = .returned (.bool true) ∧ Below w.heap.size w w' := by
  by_cases hno : great ⟨fs, cap, left, down⟩ = true ∨ (check ⟨fs, cap, left, down⟩ = false ∨ (down = true ∨ 0 ≤ left))
  · exact mends_aside A n c fs cap left down name other w hn hs hmax hsz hG hno
  · have hgr : great ⟨fs, cap, left, down⟩ = false := by
      cases h : great ⟨fs, cap, left, down⟩
      · rfl
      · exact absurd (.inl h) hno
    have hck : check ⟨fs, cap, left, down⟩ = true := by
      cases h : check ⟨fs, cap, left, down⟩
      · exact absurd (.inr (.inl h)) hno
      · rfl
    have hd : down = false := by
      cases down
      · rfl
      · exact absurd (.inr (.inr (.inl rfl))) hno
    subst hd
    exact mends_main A n c fs cap left name other w hn hs hmax hsz hG hnm hgr hck (by
      rcases Int.lt_or_le left 0 with h | h
      · exact h
      · exact absurd (.inr (.inr (.inr h))) hno) hlb
end
end Go.Proofs.YtpppeadmhfggkaaDoor
