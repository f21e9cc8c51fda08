/-
  The law FilePuts: its walk. Conditions: those that each theorem names.
-/
import Derived.Test.YtpppeadmhfggkaaGreatDoorFilRefPut
import Derived.Test.YtpppeadmhfggkaaGreatDoorFilFlt
import Derived.Test.YtpppeadmhfggkaaGreatDoorFilTexts
namespace Go.Proofs.YtpppeadmhfggkaaGreatDoor
open Go.RowKit DP

/-- What the law has between its calls: the disk, the program's answer, the reference's. -/
structure Ps (fs : List Fl) (cap left : Int) (down : Bool) (A : Option Addr) (n c g7 g9 : Nat) (do_ : Dk) (Ao : Option Addr) (mo co : Nat) (dp : Dk) (Ap : Option Addr) (mp cp : Nat) (w W : World) : Prop where
  v : Var W w.heap.size 24 #[.slice A n c, .int .i64 cap, .int .i64 left, .bool down]
  o : DkAt do_ Ao mo co g7 W
  p : DkAt dp Ap mp cp g9 W
  b : Below w.heap.size w W
section
variable {fs : List Fl} {cap left : Int} {down : Bool} {A : Option Addr} {n c g7 g9 : Nat} {do_ dp d' : Dk} {Ao Ap A' : Option Addr} {mo co mp cp m' c' : Nat} {w W W' : World}
theorem Ps.next (h : Ps fs cap left down A n c g7 g9 do_ Ao mo co dp Ap mp cp w W) (k : Below W.heap.size W W') : Ps fs cap left down A n c g7 g9 do_ Ao mo co dp Ap mp cp w W' :=
  ⟨h.v.below k h.v.lt, h.o.grow k, h.p.grow k, h.b.trans (k.mono h.b.size)⟩
theorem DkAt.other {d : Dk} {m g g' : Nat} {o0 o1 o2 o3 x y z u : Value} (h : DkAt d A m c g W) (v : Var W g' 24 #[o0, o1, o2, o3]) (ho : ∀ (i : Nat) (s : ByteArray), (#[o0, o1, o2, o3] : Array Value)[i]? ≠ some (Value.string s)) (hne : g ≠ g') :
    DkAt d A m c g ((((W.setCell ⟨g', 0, none⟩ x).setCell ⟨g', 1, none⟩ y).setCell ⟨g', 2, none⟩ z).setCell ⟨g', 3, none⟩ u) :=
  have ha := seen_apart h.2.1 v ho
  ⟨h.1, ((((h.2.1.off ha).off ha).off ha).off ha).up (by simp), h.2.2.1, set4_other h.2.2.2 hne⟩
/-- The program's answer stands where the earlier one stood. -/
theorem Ps.puto (h : Ps fs cap left down A n c g7 g9 do_ Ao mo co dp Ap mp cp w W) (hl : d'.fs.length = m') (hs : Seen W W.heap.size A' (fcells d'.fs)) (hc : m' ≤ c') (h1 : w.heap.size < g7) (h2 : g9 ≠ g7) :
    Ps fs cap left down A n c g7 g9 d' A' m' c' dp Ap mp cp w ((((W.setCell ⟨g7, 0, none⟩ (.slice A' m' c')).setCell ⟨g7, 1, none⟩ (.int .i64 d'.cap)).setCell ⟨g7, 2, none⟩ (.int .i64 d'.left)).setCell ⟨g7, 3, none⟩ (.bool d'.down)) :=
  ⟨set4_other h.v (by omega), DkAt.step hl hs hc h.o.2.2.2 disk_noText, h.p.other h.o.2.2.2 disk_noText h2, h.b.trans (set4_below (by omega))⟩
theorem Ps.putp (h : Ps fs cap left down A n c g7 g9 do_ Ao mo co dp Ap mp cp w W) (hl : d'.fs.length = m') (hs : Seen W W.heap.size A' (fcells d'.fs)) (hc : m' ≤ c') (h1 : w.heap.size < g9) (h2 : g7 ≠ g9) :
    Ps fs cap left down A n c g7 g9 do_ Ao mo co d' A' m' c' w ((((W.setCell ⟨g9, 0, none⟩ (.slice A' m' c')).setCell ⟨g9, 1, none⟩ (.int .i64 d'.cap)).setCell ⟨g9, 2, none⟩ (.int .i64 d'.left)).setCell ⟨g9, 3, none⟩ (.bool d'.down)) :=
  ⟨set4_other h.v (by omega), h.o.other h.p.2.2.2 disk_noText h2, DkAt.step hl hs hc h.p.2.2.2 disk_noText, h.b.trans (set4_below (by omega))⟩
end

section
variable (A LA : Option Addr) (n c ln lc : Nat) (fs : List Fl) (cap left : Int) (down : Bool) (name : ByteArray) (ls : List (List UInt8)) (w : World)

set_option maxRecDepth 100000 in
set_option maxHeartbeats 1000000 in
/-- The ways on which the law asks wakes at once. -/
theorem puts_aside (hn : fs.length = n) (hs : Seen w w.heap.size A (fcells fs)) (hmax : n ≤ 9223372036854775807) (hsz : ∀ f ∈ fs, f.b.size ≤ 9223372036854775807 ∧ f.n.size ≤ 9223372036854775807) (hnm : name.size ≤ 9223372036854775807)
    (hl : ln = ls.length) (hls : Seen w w.heap.size LA (strs ls)) (hlm : ln ≤ 9223372036854775807) (hlz : ∀ x ∈ ls, x.length ≤ 9223372036854775807) (hG : Glob w) (hno : great ⟨fs, cap, left, down⟩ = true ∨ 100 < name.size ∨ 100 < ln ∨ greatL ls = true) :
    Calls Tryz.prog 4 #[.agg #[.slice A n c, .int .i64 cap, .int .i64 left, .bool down], .string name, .slice LA ln lc] w fun e w' => e = .returned (.bool true) ∧ Below w.heap.size w w' := by
  have HN := Lib.hid hn
  have HL := Lib.hid hl
  have HG := Lib.hid hG
  have HLZ := Lib.hid hlz
  have HSZ := Lib.hid hsz
  clear hn hl hG hlz hsz
  have hb0 := bel1 w #[.slice A n c, .int .i64 cap, .int .i64 left, .bool down] 24
  cases hgr : great ⟨fs, cap, left, down⟩ with
  | true =>
    have HGR := Lib.hid hgr
    clear hgr hno
    go_enter Tryz.func4, Tryz.ntmps4
    go_wp2_with fail
    refine (great_any A n c w.heap.size fs cap left down true _ HN.out HGR.out (hs.below hb0) (by simp) hmax HSZ.out).mono ?_
    rintro e w1 ⟨rfl, hb1⟩
    have hb1' := hb0.trans (hb1.mono (by simp))
    go_wp2_with fail
    refine (wakes_any _ (HG.out.next hb1')).mono ?_
    rintro e w2 ⟨rfl, hb2⟩
    have hb2' := hb1'.trans (hb2.mono hb1'.size)
    go_wp2
    go_ret
    exact ⟨rfl, hb2'⟩
  | false =>
    have HGR := Lib.hid hgr
    have hno' := hno.resolve_left (by rw [hgr]; simp)
    clear hgr hno
    by_cases h1 : 100 < name.size
    · have hd1 : decide ((100 : Int) < (name.size : Int)) = true := decide_eq_true (by omega)
      clear hno'
      go_enter Tryz.func4, Tryz.ntmps4
      go_wp2_with fail
      refine (great_any A n c w.heap.size fs cap left down false _ HN.out HGR.out (hs.below hb0) (by simp) hmax HSZ.out).mono ?_
      rintro e w1 ⟨rfl, hb1⟩
      have hb1' := hb0.trans (hb1.mono (by simp))
      go_wp2_with fail
      refine (wakes_any _ (HG.out.next hb1')).mono ?_
      rintro e w2 ⟨rfl, hb2⟩
      have hb2' := hb1'.trans (hb2.mono hb1'.size)
      go_wp2
      go_ret
      exact ⟨rfl, hb2'⟩
    have hd1 : decide ((100 : Int) < (name.size : Int)) = false := decide_eq_false (by omega)
    have hno2 := hno'.resolve_left h1
    clear hno' h1
    by_cases h2 : 100 < ln
    · have hd2 : decide ((100 : Int) < (ln : Int)) = true := decide_eq_true (by omega)
      clear hno2 h2
      go_enter Tryz.func4, Tryz.ntmps4
      go_wp2_with fail
      refine (great_any A n c w.heap.size fs cap left down false _ HN.out HGR.out (hs.below hb0) (by simp) hmax HSZ.out).mono ?_
      rintro e w1 ⟨rfl, hb1⟩
      have hb1' := hb0.trans (hb1.mono (by simp))
      go_wp2_with fail
      refine (wakes_any _ (HG.out.next hb1')).mono ?_
      rintro e w2 ⟨rfl, hb2⟩
      have hb2' := hb1'.trans (hb2.mono hb1'.size)
      go_wp2
      go_ret
      exact ⟨rfl, hb2'⟩
    have hd2 : decide ((100 : Int) < (ln : Int)) = false := decide_eq_false (by omega)
    have HGL := Lib.hid (hno2.resolve_left h2)
    clear hno2 h2
    go_enter Tryz.func4, Tryz.ntmps4
    go_wp2_with fail
    refine (great_any A n c w.heap.size fs cap left down false _ HN.out HGR.out (hs.below hb0) (by simp) hmax HSZ.out).mono ?_
    rintro e w1 ⟨rfl, hb1⟩
    have hb1' := hb0.trans (hb1.mono (by simp))
    go_wp2_with fail
    refine (greatL_any LA ln lc w.heap.size ls true _ HL.out HGL.out (hls.below hb1') hlm HLZ.out).mono ?_
    rintro e w1' ⟨rfl, rfl⟩
    go_wp2_with fail
    refine (wakes_any _ (HG.out.next hb1')).mono ?_
    rintro e w2 ⟨rfl, hb2⟩
    have hb2' := hb1'.trans (hb2.mono hb1'.size)
    go_wp2
    go_ret
    exact ⟨rfl, hb2'⟩

set_option maxRecDepth 100000 in
set_option maxHeartbeats 2000000 in
theorem puts_main (hn : fs.length = n) (hnc : n ≤ c) (hs : Seen w w.heap.size A (fcells fs)) (hsz : ∀ f ∈ fs, f.b.size ≤ 9223372036854775807 ∧ f.n.size ≤ 9223372036854775807) (hlb : -9223372036854775808 ≤ left ∧ left ≤ 9223372036854775807)
    (hl : ln = ls.length) (hls : Seen w w.heap.size LA (strs ls)) (hlz : ∀ x ∈ ls, x.length ≤ 9223372036854775807) (hG : Glob w) (hgr : great ⟨fs, cap, left, down⟩ = false) (hnm : name.size ≤ 100) (h100 : ln ≤ 100) (hgl : greatL ls = false) :
    Calls Tryz.prog 4 #[.agg #[.slice A n c, .int .i64 cap, .int .i64 left, .bool down], .string name, .slice LA ln lc] w fun e w' => e = .returned (.bool true) ∧ Below w.heap.size w w' := by
  have h3000 := greatL_no hgl
  have hlz' : ∀ x ∈ ls, x.length ≤ 140737488351232 := fun x hx => by have := h3000 x hx; omega
  have hmild : Mild ⟨fs, cap, left, down⟩ := ⟨great_small hgr, hlb⟩
  obtain ⟨⟨fs1, cap1, left1, down1⟩, x1, hr1⟩ : ∃ d' x, puts ⟨fs, cap, left, down⟩ name ls = (d', x) := ⟨_, _, rfl⟩
  obtain ⟨⟨fs2, cap2, left2, down2⟩, x2, hr2⟩ : ∃ d' x, mends ⟨fs, cap, left, down⟩ name = (d', x) := ⟨_, _, rfl⟩
  have hmay1 := doAll_may hmild (l := [⟨0, name, flatS ls, 0⟩, ⟨1, name, none_, 0⟩]) (fun y hy => by
    simp only [List.mem_cons, List.not_mem_nil, or_false] at hy
    rcases hy with rfl | rfl <;> (simp only; omega)) hr1
  have hmay2 := doAll_may hmild (l := mendOps ⟨fs, cap, left, down⟩ name) (fun y hy => by
    unfold mendOps at hy
    split at hy
    · cases hy
    · rw [List.mem_singleton] at hy
      subst hy
      simp only
      omega) hr2
  have HN := Lib.hid hn
  have HL := Lib.hid hl
  have HG := Lib.hid hG
  have HLZ := Lib.hid hlz
  have HSZ := Lib.hid hsz
  have HNC := Lib.hid hnc
  have HLZ' := Lib.hid hlz'
  have HGR := Lib.hid hgr
  have HGL := Lib.hid hgl
  have HR1 := Lib.hid hr1
  have HR2 := Lib.hid hr2
  have HM := Lib.hid hmild
  have HF1 := Lib.hid hmay1
  have HF2 := Lib.hid hmay2
  have hd1 : decide ((100 : Int) < (name.size : Int)) = false := decide_eq_false (by omega)
  have hd2 : decide ((100 : Int) < (ln : Int)) = false := decide_eq_false (by omega)
  have hnm' : name.size ≤ 9223372036854775807 := by omega
  have hmax : n ≤ 9223372036854775807 := by have := hmild.1.1; simp only at this; omega
  have hlm : ln ≤ 9223372036854775807 := by omega
  clear hn hl hG hlz hsz hnc hlz' hgr hgl hr1 hr2 hmild hmay1 hmay2 h3000 hlb
  have hb0 := bel1 w #[.slice A n c, .int .i64 cap, .int .i64 left, .bool down] 24
  have v0 := new1 w #[.slice A n c, .int .i64 cap, .int .i64 left, .bool down] 24
  go_enter Tryz.func4, Tryz.ntmps4
  go_wp2_with fail
  refine (great_any A n c w.heap.size fs cap left down false _ HN.out HGR.out (hs.below hb0) (by simp) hmax HSZ.out).mono ?_
  rintro e w1 ⟨rfl, hb1⟩
  have hb1' := hb0.trans (hb1.mono (by simp))
  have v1 := Var.below v0 hb1 (by simp)
  obtain ⟨d0, d1, d2, d3, f0⟩ := v1.cells4
  clear hb0 v0 hb1
  go_wp2_with fail
  refine (greatL_any LA ln lc w.heap.size ls false _ HL.out HGL.out (hls.below hb1') hlm HLZ.out).mono ?_
  rintro e w1' ⟨rfl, rfl⟩
  go_wp2_with fail
  refine (fput_any A LA n c w.heap.size ln lc w.heap.size fs cap left down name ls _ x1 _ (HG.out.next hb1') HN.out (hs.below hb1') hb1'.size HM.out hnm' HL.out.symm h100 HLZ'.out (hls.below hb1') hb1'.size HR1.out).mono ?_
  rintro e w3 ⟨A3, m3, c3, ev, rfl, hl3, hs3, hc3, hev, hb3⟩
  have hb3' := hb1'.trans (hb3.mono hb1'.size)
  have v3 := Var.below v1 hb3 v1.lt
  clear d0 d1 d2 d3 f0 hb3 hb1' v1
  go_upto_region 4 with fail
  obtain ⟨W4, hW4⟩ : ∃ W4, W4 = w3.alloc (.cells #[.slice A3 m3 c3, .int .i64 cap1, .int .i64 left1, .bool down1] 24) := ⟨_, rfl⟩
  obtain ⟨g7, hg7⟩ : ∃ g7, g7 = w3.heap.size := ⟨_, rfl⟩
  have o4 := DkAt.new (d := ⟨fs1, cap1, left1, down1⟩) (w6 := w3) hl3 hs3 hc3
  have hbt := bel1 w3 #[.slice A3 m3 c3, .int .i64 cap1, .int .i64 left1, .bool down1] 24
  simp only at o4
  rw [← hW4] at o4 hbt ⊢
  rw [← hg7] at o4 ⊢
  have hb4 := hb3'.trans (hbt.mono hb3'.size)
  have v4 := Var.below v3 hbt v3.lt
  have hev4 := hev.grow hbt
  have hg7' : w.heap.size < g7 := by rw [hg7]; exact v3.lt
  obtain ⟨d0, d1, d2, d3, f0⟩ := v4.cells4
  clear hW4 hg7 hbt hl3 hs3 hc3 hev hb3' v3
  go_wp2_with fail
  refine (rfput_any A LA n c w.heap.size ln lc w.heap.size fs cap left down name ls _ x1 _ HN.out HNC.out (hs.below hb4) hb4.size HM.out hnm' HL.out.symm h100 HLZ'.out (hls.below hb4) hb4.size HR1.out).mono ?_
  rintro e w5 ⟨A5, m5, c5, rfl, hl5, hs5, hc5, hb5⟩
  have hb5' := hb4.trans (hb5.mono hb4.size)
  have o5 := o4.grow hb5
  have hev5 := hev4.grow hb5
  have v5 := Var.below v4 hb5 v4.lt
  clear d0 d1 d2 d3 f0 hb5 hb4 v4 o4 hev4
  go_upto_region 5 with fail
  obtain ⟨W6, hW6⟩ : ∃ W6, W6 = w5.alloc (.cells #[.slice A5 m5 c5, .int .i64 cap1, .int .i64 left1, .bool down1] 24) := ⟨_, rfl⟩
  obtain ⟨g9, hg9⟩ : ∃ g9, g9 = w5.heap.size := ⟨_, rfl⟩
  have p6 := DkAt.new (d := ⟨fs1, cap1, left1, down1⟩) (w6 := w5) hl5 hs5 hc5
  have hbt := bel1 w5 #[.slice A5 m5 c5, .int .i64 cap1, .int .i64 left1, .bool down1] 24
  have hg9' : g7 < g9 := by rw [hg9]; exact o5.lt
  simp only at p6
  rw [← hW6] at p6 hbt ⊢
  rw [← hg9] at p6 ⊢
  have hev6 := hev5.grow hbt
  have h6 : Ps fs cap left down A n c g7 g9 ⟨fs1, cap1, left1, down1⟩ A3 m3 c3 ⟨fs1, cap1, left1, down1⟩ A5 m5 c5 w W6 := ⟨Var.below v5 hbt v5.lt, o5.grow hbt, p6, hb5'.trans (hbt.mono hb5'.size)⟩
  clear hW6 hg9 hbt hl5 hs5 hc5 o5 hev5 hb5' p6 v5
  have HL3 := Lib.hid h6.o.1
  have HL5 := Lib.hid h6.p.1
  have hm3 : m3 ≤ 100 := by rw [← HL3.out]; exact HF1.out.2
  have hm5 : m5 ≤ 100 := by rw [← HL5.out]; exact HF1.out.2
  obtain ⟨o0, o1, o2, o3, f5⟩ := h6.o.2.2.2.cells4
  obtain ⟨p0, p1, p2, p3, f7⟩ := h6.p.2.2.2.cells4
  go_wp2_with fail
  refine (ref_same_any A3 A5 m3 m5 c3 c5 W6.heap.size fs1 fs1 cap1 cap1 left1 left1 down1 down1 true _ HL3.out HL5.out h6.o.2.1 h6.p.2.1 (Nat.le_refl _) hm3 hm5 (same_self_ _)).mono ?_
  rintro e w7 ⟨rfl, hb7⟩
  have h7 := h6.next hb7
  have hev7 := hev6.grow hb7
  clear o0 o1 o2 o3 f5 p0 p1 p2 p3 f7 hb7 h6 hev6
  go_wp2_with fail
  refine (told_any ev x1 _ (HG.out.next h7.b) hev7 HF1.out.1).mono ?_
  rintro e w8 ⟨rfl, hb8⟩
  have h8 := h7.next hb8
  obtain ⟨d0, d1, d2, d3, f0⟩ := h8.v.cells4
  clear hb8 h7 hev7
  go_wp2_with fail
  -- mended
  refine (fmend_any A n c w.heap.size fs cap left down name _ x2 _ (HG.out.next h8.b) HN.out (hs.below h8.b) h8.b.size HM.out hnm' HR2.out).mono ?_
  rintro e w9 ⟨A6, m6, c6, ev2, rfl, hl6, hs6, hc6, hev9, hb9⟩
  have h9 := h8.next hb9
  have h10 := h9.puto (d' := ⟨fs2, cap2, left2, down2⟩) hl6 hs6 hc6 hg7' (by omega)
  have hev10 : FltV ((((w9.setCell ⟨g7, 0, none⟩ (.slice A6 m6 c6)).setCell ⟨g7, 1, none⟩ (.int .i64 cap2)).setCell ⟨g7, 2, none⟩ (.int .i64 left2)).setCell ⟨g7, 3, none⟩ (.bool down2)) ev2 x2 := hev9.off4 h9.o.2.2.2
  clear d0 d1 d2 d3 f0
  obtain ⟨o0, o1, o2, o3, f5⟩ := h9.o.2.2.2.cells4
  have lo := h9.o.lt
  have H10 := Lib.hid h10
  have HE10 := Lib.hid hev10
  clear hb9 h8 h10 hev9 hev10 hl6 hs6 hc6 HL3 HL5 hm3 hm5 h9
  go_upto_region 8 with fail
  have h10 := H10.out
  have hev10 := HE10.out
  obtain ⟨W10, hW10⟩ : ∃ W10, W10 = (((w9.setCell ⟨g7, 0, none⟩ (.slice A6 m6 c6)).setCell ⟨g7, 1, none⟩ (.int .i64 cap2)).setCell ⟨g7, 2, none⟩ (.int .i64 left2)).setCell ⟨g7, 3, none⟩ (.bool down2) := ⟨_, rfl⟩
  rw [← hW10] at h10 hev10 ⊢
  clear hW10 H10 HE10 o0 o1 o2 o3 f5 lo
  obtain ⟨d0, d1, d2, d3, f0⟩ := h10.v.cells4
  go_wp2_with fail
  refine (rfmend_any A n c w.heap.size fs cap left down name _ x2 _ HN.out HNC.out (hs.below h10.b) h10.b.size HM.out hnm' HR2.out).mono ?_
  rintro e w11 ⟨A7, m7, c7, rfl, hl7, hs7, hc7, hb11⟩
  have h11 := h10.next hb11
  have hev11 := hev10.grow hb11
  have h12 := h11.putp (d' := ⟨fs2, cap2, left2, down2⟩) hl7 hs7 hc7 (by omega) (by omega)
  have hev12 : FltV ((((w11.setCell ⟨g9, 0, none⟩ (.slice A7 m7 c7)).setCell ⟨g9, 1, none⟩ (.int .i64 cap2)).setCell ⟨g9, 2, none⟩ (.int .i64 left2)).setCell ⟨g9, 3, none⟩ (.bool down2)) ev2 x2 := hev11.off4 h11.p.2.2.2
  clear d0 d1 d2 d3 f0
  obtain ⟨p0, p1, p2, p3, f7⟩ := h11.p.2.2.2.cells4
  have lp := h11.p.lt
  have H12 := Lib.hid h12
  have HE12 := Lib.hid hev12
  clear hb11 h10 h11 h12 hev10 hev11 hev12 hl7 hs7 hc7
  go_upto_region 9 with fail
  have h12 := H12.out
  have hev12 := HE12.out
  obtain ⟨W12, hW12⟩ : ∃ W12, W12 = (((w11.setCell ⟨g9, 0, none⟩ (.slice A7 m7 c7)).setCell ⟨g9, 1, none⟩ (.int .i64 cap2)).setCell ⟨g9, 2, none⟩ (.int .i64 left2)).setCell ⟨g9, 3, none⟩ (.bool down2) := ⟨_, rfl⟩
  rw [← hW12] at h12 hev12 ⊢
  clear hW12 H12 HE12 p0 p1 p2 p3 f7 lp
  have HL6 := Lib.hid h12.o.1
  have HL7 := Lib.hid h12.p.1
  have hm6 : m6 ≤ 100 := by rw [← HL6.out]; exact HF2.out.2
  have hm7 : m7 ≤ 100 := by rw [← HL7.out]; exact HF2.out.2
  obtain ⟨o0, o1, o2, o3, f5⟩ := h12.o.2.2.2.cells4
  obtain ⟨p0, p1, p2, p3, f7⟩ := h12.p.2.2.2.cells4
  go_wp2_with fail
  refine (ref_same_any A6 A7 m6 m7 c6 c7 W12.heap.size fs2 fs2 cap2 cap2 left2 left2 down2 down2 true _ HL6.out HL7.out h12.o.2.1 h12.p.2.1 (Nat.le_refl _) hm6 hm7 (same_self_ _)).mono ?_
  rintro e w13 ⟨rfl, hb13⟩
  have hb13' := h12.b.trans (hb13.mono h12.b.size)
  have hev13 := hev12.grow hb13
  clear o0 o1 o2 o3 f5 p0 p1 p2 p3 f7 hb13 h12 hev12
  go_wp2_with fail
  refine (told_any ev2 x2 _ (HG.out.next hb13') hev13 HF2.out.1).mono ?_
  rintro e w14 ⟨rfl, hb14⟩
  have hb14' := hb13'.trans (hb14.mono hb13'.size)
  go_wp2_with fail
  refine (wakes_any _ (HG.out.next hb14')).mono ?_
  rintro e w15 ⟨rfl, hb15⟩
  have hb15' := hb14'.trans (hb15.mono hb14'.size)
  go_wp2
  go_ret
  exact ⟨rfl, hb15'⟩
theorem puts_all (hn : fs.length = n) (hnc : n ≤ c) (hs : Seen w w.heap.size A (fcells fs)) (hmax : n ≤ 9223372036854775807) (hsz : ∀ f ∈ fs, f.b.size ≤ 9223372036854775807 ∧ f.n.size ≤ 9223372036854775807) (hlb : -9223372036854775808 ≤ left ∧ left ≤ 9223372036854775807) (hnm : name.size ≤ 9223372036854775807)
    (hw : ∃ ls : List (List UInt8), ln = ls.length ∧ Seen w w.heap.size LA (strs ls) ∧ (∀ l ∈ ls, l.length ≤ maxLen) ∧ ln ≤ lc ∧ lc ≤ maxLen) (hG : Glob w) :
    Calls Tryz.prog 4 #[.agg #[.slice A n c, .int .i64 cap, .int .i64 left, .bool down], .string name, .slice LA ln lc] w fun e w' => e = .returned (.bool true) ∧ Below w.heap.size w w' := by
  obtain ⟨ls, h1, h2, h3, h4, h5⟩ := hw
  have hml : maxLen ≤ 9223372036854775807 := by decide
  have h6 : ln ≤ 9223372036854775807 := Nat.le_trans (Nat.le_trans h4 h5) hml
  have h7 : ∀ x ∈ ls, x.length ≤ 9223372036854775807 := fun x hx => Nat.le_trans (h3 x hx) hml
  by_cases hno : great ⟨fs, cap, left, down⟩ = true ∨ 100 < name.size ∨ 100 < ln ∨ greatL ls = true
  · exact puts_aside A LA n c ln lc fs cap left down name ls w hn hs hmax hsz hnm h1 h2 h6 h7 hG hno
  · have g (b : Bool) (h : b ≠ true) : b = false := by cases b; rfl; exact absurd rfl h
    exact puts_main A LA n c ln lc fs cap left down name ls w hn hnc hs hsz hlb h1 h2 h7 hG (g _ fun h => hno (by simp [h])) (by omega) (by omega) (g _ fun h => hno (by simp [h]))
end
end Go.Proofs.YtpppeadmhfggkaaGreatDoor
