/-
  The law FileDoes: its walk. Conditions: those that each theorem names.
-/
import Derived.Test.YtpppeadmhfggkaaGreatDoorFilRefDo
import Derived.Test.YtpppeadmhfggkaaGreatDoorFilFlt
namespace Go.Proofs.YtpppeadmhfggkaaGreatDoor
open Go.RowKit DP

section
variable (A LA : Option Addr) (n c ln lc : Nat) (fs : List Fl) (cap left : Int) (down : Bool) (l : List Wr) (w : World)

theorem greatW_no {l : List Wr} (h : greatW l = false) : l.length ≤ 100 ∧ ∀ y ∈ l, y.b.size ≤ 4096 ∧ y.file.size ≤ 100 := by
  unfold greatW at h
  rw [Bool.or_eq_false_iff] at h
  have h1 := of_decide_eq_false h.1
  refine ⟨by omega, fun y hy => ?_⟩
  have h2 := List.any_eq_false.1 h.2 y hy
  unfold greatW1 at h2
  simp only [Bool.or_eq_true, decide_eq_true_eq, not_or] at h2
  omega

set_option maxRecDepth 100000 in
set_option maxHeartbeats 1000000 in
theorem does_law (hn : fs.length = n) (hnc : n ≤ c) (hs : Seen w w.heap.size A (fcells fs)) (hmax : n ≤ 9223372036854775807) (hsz : ∀ f ∈ fs, f.b.size ≤ 9223372036854775807 ∧ f.n.size ≤ 9223372036854775807) (hlb : -9223372036854775808 ≤ left ∧ left ≤ 9223372036854775807)
    (hl : l.length = ln) (hls : Seen w w.heap.size LA (wcells l)) (hlm : ln ≤ 9223372036854775807) (hlz : ∀ y ∈ l, y.b.size ≤ 9223372036854775807 ∧ y.file.size ≤ 9223372036854775807) (hG : Glob w) :
    Calls Tryz.prog 3 #[.agg #[.slice A n c, .int .i64 cap, .int .i64 left, .bool down], .slice LA ln lc] w fun e w' => e = .returned (.bool true) ∧ Below w.heap.size w w' := by
  have HN := Lib.hid hn
  have HL := Lib.hid hl
  have HG := Lib.hid hG
  have HLZ := Lib.hid hlz
  have HSZ := Lib.hid hsz
  have HNC := Lib.hid hnc
  clear hn hl hG hlz hsz hnc
  have hb0 := bel1 w #[.slice A n c, .int .i64 cap, .int .i64 left, .bool down] 24
  have v0 := new1 w #[.slice A n c, .int .i64 cap, .int .i64 left, .bool down] 24
  cases hgr : great ⟨fs, cap, left, down⟩ with
  | true =>
    have HGR := Lib.hid hgr
    clear hgr v0
    go_enter Tryz.func3, Tryz.ntmps3
    go_wp2_with fail
    refine (great_any A n c w.heap.size fs cap left down true _ HN.out HGR.out (hs.below hb0) (by simp) hmax HSZ.out).mono ?_
    rintro e w1 ⟨rfl, hb1⟩
    have hb1' := hb0.trans (hb1.mono (by simp))
    go_wp2_with fail
    refine (wakes_any _ (HG.out.next hb1')).mono ?_
    rintro e w2 ⟨rfl, hb2⟩
    have hb2' := hb1'.trans (hb2.mono hb1'.size)
    go_wp2
    go_ret
    exact ⟨rfl, hb2'⟩
  | false =>
    have HGR := Lib.hid hgr
    clear hgr
    cases hgl : greatW l with
    | true =>
      have HGL := Lib.hid hgl
      clear hgl v0
      go_enter Tryz.func3, Tryz.ntmps3
      go_wp2_with fail
      refine (great_any A n c w.heap.size fs cap left down false _ HN.out HGR.out (hs.below hb0) (by simp) hmax HSZ.out).mono ?_
      rintro e w1 ⟨rfl, hb1⟩
      have hb1' := hb0.trans (hb1.mono (by simp))
      go_wp2_with fail
      refine (greatW_any LA ln lc w.heap.size l true _ HL.out HGL.out (hls.below hb1') hb1'.size hlm HLZ.out).mono ?_
      rintro e w1' ⟨rfl, hx⟩
      have hb1'' := hb1'.trans (hx.mono hb1'.size)
      go_wp2_with fail
      refine (wakes_any _ (HG.out.next hb1'')).mono ?_
      rintro e w2 ⟨rfl, hb2⟩
      have hb2' := hb1''.trans (hb2.mono hb1''.size)
      go_wp2
      go_ret
      exact ⟨rfl, hb2'⟩
    | false =>
      have HGL := Lib.hid hgl
      have hgn := greatW_no hgl
      have hln : ln ≤ 100 := by rw [← HL.out]; exact hgn.1
      have HGN := Lib.hid hgn.2
      have hmild : Mild ⟨fs, cap, left, down⟩ := ⟨great_small HGR.out, hlb⟩
      obtain ⟨⟨fs', cap', left', down'⟩, x, hr⟩ : ∃ d' x, doAll ⟨fs, cap, left, down⟩ l = (d', x) := ⟨_, _, rfl⟩
      have hmay := doAll_may hmild (fun y hy => Nat.le_trans (HGN.out y hy).2 (by decide)) hr
      have HR := Lib.hid hr
      have HM := Lib.hid hmild
      have HF := Lib.hid hmay.1
      have HD := Lib.hid hmay.2
      clear hgl hgn hmild hr hmay hlb
      go_enter Tryz.func3, Tryz.ntmps3
      go_wp2_with fail
      refine (great_any A n c w.heap.size fs cap left down false _ HN.out HGR.out (hs.below hb0) (by simp) hmax HSZ.out).mono ?_
      rintro e w1 ⟨rfl, hb1⟩
      have hb1' := hb0.trans (hb1.mono (by simp))
      have v1 := Var.below v0 hb1 (by simp)
      clear hb0 v0 hb1
      go_wp2_with fail
      refine (greatW_any LA ln lc w.heap.size l false _ HL.out HGL.out (hls.below hb1') hb1'.size hlm HLZ.out).mono ?_
      rintro e w2 ⟨rfl, hx⟩
      have hb2 := hb1'.trans (hx.mono hb1'.size)
      have v2 := Var.below v1 hx v1.lt
      obtain ⟨d0, d1, d2, d3, f0⟩ := v2.cells4
      clear hx hb1' v1
      go_wp2_with fail
      refine (fdo_any A LA n c w.heap.size ln lc w.heap.size fs cap left down l _ x _ (HG.out.next hb2) HN.out (hs.below hb2) hb2.size HM.out HL.out (hls.below hb2) hb2.size (by omega) (fun y hy => ⟨Nat.le_trans (HGN.out y hy).1 (by decide), (HLZ.out y hy).2⟩) HR.out).mono ?_
      rintro e w3 ⟨A3, m3, c3, ev, rfl, hl3, hs3, hc3, hev, hb3⟩
      have hb3' := hb2.trans (hb3.mono hb2.size)
      have v3 := Var.below v2 hb3 v2.lt
      clear d0 d1 d2 d3 f0 hb3 hb2 v2
      go_upto_region 4 with fail
      obtain ⟨W4, hW4⟩ : ∃ W4, W4 = w3.alloc (.cells #[.slice A3 m3 c3, .int .i64 cap', .int .i64 left', .bool down'] 24) := ⟨_, rfl⟩
      obtain ⟨g5, hg5⟩ : ∃ g5, g5 = w3.heap.size := ⟨_, rfl⟩
      have o4 := DkAt.new (d := ⟨fs', cap', left', down'⟩) (w6 := w3) hl3 hs3 hc3
      have hbt := bel1 w3 #[.slice A3 m3 c3, .int .i64 cap', .int .i64 left', .bool down'] 24
      simp only at o4
      rw [← hW4] at o4 hbt ⊢
      rw [← hg5] at o4 ⊢
      have hb4 := hb3'.trans (hbt.mono hb3'.size)
      have v4 := Var.below v3 hbt v3.lt
      have hev4 := hev.grow hbt
      obtain ⟨d0, d1, d2, d3, f0⟩ := v4.cells4
      clear hW4 hg5 hbt hl3 hs3 hc3 hev hb3' v3
      go_wp2_with fail
      refine (rfdo_any A LA n c w.heap.size ln lc w.heap.size fs cap left down l _ x _ HN.out HNC.out (hs.below hb4) hb4.size HM.out HL.out (hls.below hb4) hb4.size (by omega) (fun y hy => ⟨Nat.le_trans (HGN.out y hy).1 (by decide), (HLZ.out y hy).2⟩) HR.out).mono ?_
      rintro e w5 ⟨A5, m5, c5, rfl, hl5, hs5, hc5, hb5⟩
      have hb5' := hb4.trans (hb5.mono hb4.size)
      have o5 := o4.grow hb5
      have hev5 := hev4.grow hb5
      clear d0 d1 d2 d3 f0 hb5 hb4 v4 o4 hev4
      go_upto_region 5 with fail
      obtain ⟨W6, hW6⟩ : ∃ W6, W6 = w5.alloc (.cells #[.slice A5 m5 c5, .int .i64 cap', .int .i64 left', .bool down'] 24) := ⟨_, rfl⟩
      obtain ⟨g7, hg7⟩ : ∃ g7, g7 = w5.heap.size := ⟨_, rfl⟩
      have p6 := DkAt.new (d := ⟨fs', cap', left', down'⟩) (w6 := w5) hl5 hs5 hc5
      have hbt := bel1 w5 #[.slice A5 m5 c5, .int .i64 cap', .int .i64 left', .bool down'] 24
      simp only at p6
      rw [← hW6] at p6 hbt ⊢
      rw [← hg7] at p6 ⊢
      have hb6 := hb5'.trans (hbt.mono hb5'.size)
      have o6 := o5.grow hbt
      have hev6 := hev5.grow hbt
      clear hW6 hg7 hbt hl5 hs5 hc5 o5 hev5 hb5'
      have H3 := Lib.hid o6.1
      have H5 := Lib.hid p6.1
      have hs3 := o6.2.1
      have hs5 := p6.2.1
      have hm3 : m3 ≤ 100 := by rw [← H3.out]; exact HD.out
      have hm5 : m5 ≤ 100 := by rw [← H5.out]; exact HD.out
      obtain ⟨o0, o1, o2, o3, f5⟩ := o6.2.2.2.cells4
      obtain ⟨p0, p1, p2, p3, f7⟩ := p6.2.2.2.cells4
      clear o6 p6
      go_wp2_with fail
      refine (ref_same_any A3 A5 m3 m5 c3 c5 W6.heap.size fs' fs' cap' cap' left' left' down' down' true _ H3.out H5.out hs3 hs5 (Nat.le_refl _) hm3 hm5 (same_self_ _)).mono ?_
      rintro e w7 ⟨rfl, hb7⟩
      have hb7' := hb6.trans (hb7.mono hb6.size)
      have hev7 := hev6.grow hb7
      clear o0 o1 o2 o3 f5 p0 p1 p2 p3 f7 hb7 hb6 hev6 hs3 hs5
      go_wp2_with fail
      refine (told_any ev x _ (HG.out.next hb7') hev7 HF.out).mono ?_
      rintro e w8 ⟨rfl, hb8⟩
      have hb8' := hb7'.trans (hb8.mono hb7'.size)
      go_wp2_with fail
      refine (wakes_any _ (HG.out.next hb8')).mono ?_
      rintro e w9 ⟨rfl, hb9⟩
      have hb9' := hb8'.trans (hb9.mono hb8'.size)
      go_wp2
      go_ret
      exact ⟨rfl, hb9'⟩
end
end Go.Proofs.YtpppeadmhfggkaaGreatDoor
