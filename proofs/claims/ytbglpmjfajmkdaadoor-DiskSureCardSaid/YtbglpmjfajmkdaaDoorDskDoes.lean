/-
  The contract of the law's does: what it returns and what it does to memory. Conditions: those that each theorem names.
-/
import Derived.Test.YtbglpmjfajmkdaaDoorDskActs
import Derived.Test.YtbglpmjfajmkdaaDoorDskRefDoA
import Derived.Test.YtbglpmjfajmkdaaDoorDskRefCrash
namespace Go.Proofs.YtbglpmjfajmkdaaDoor
open Go.RowKit DP

section
variable {T1 T2 T3 : TypeId} {c1 c2 c3 : Array Value} {B : Nat} {A : Option Addr} {fs : List Fl} {w W : World}
theorem V3.set4 (h : V3 T1 T2 T3 c1 c2 c3 B A fs w W) (hB : B ≤ w.heap.size) {g : Nat} (hg : w.heap.size + 3 ≤ g) (a b c d : Value) : V3 T1 T2 T3 c1 c2 c3 B A fs w ((((W.setCell ⟨g, 0, none⟩ a).setCell ⟨g, 1, none⟩ b).setCell ⟨g, 2, none⟩ c).setCell ⟨g, 3, none⟩ d) :=
  (((h.set hB 0 a hg).set hB 1 b hg).set hB 2 c hg).set hB 3 d hg
end
set_option maxRecDepth 100000 in
set_option maxHeartbeats 4000000 in
theorem does_do (A : Option Addr) (n c B : Nat) (fs : List Fl) (cap left : Int) (down : Bool) (op : Int) (file b : ByteArray) (k : Int) (K : Option Addr) (kc : Nat) (keep : List Int) (num : Int) (w : World) (hn : fs.length = n) (hs : Seen w B A (fcells fs)) (hB : B ≤ w.heap.size) (hnc : n ≤ c) (hfine : Fine ⟨fs, cap, left, down⟩) (hks : Seen w B K (keep.map (Value.int .i64))) (hf : file.size ≤ 9223372036854775807) (hbb : b.size ≤ 4096) (hkw : ∀ y ∈ keep, -9223372036854775808 ≤ y ∧ y ≤ 9223372036854775807) (hG : Glob w) (fs1 : List Fl) (cap1 left1 : Int) (down1 : Bool) (r1 : Int) (hr : does ⟨fs, cap, left, down⟩ ⟨op, file, b, k⟩ = (⟨fs1, cap1, left1, down1⟩, r1)) (fs' : List Fl) (cap' left' : Int) (down' : Bool) (r : Int) (hx : (if r1 ≠ 0 ∧ down1 = false then ((⟨fs, cap, left, down⟩ : Dk), r1) else (⟨fs1, cap1, left1, down1⟩, r1)) = (⟨fs', cap', left', down'⟩, r)) :
    Calls Tryd.prog 31 #[.agg #[.slice A n c, .int .i64 cap, .int .i64 left, .bool down], .agg #[.int .i64 0, .int .i8 op, .string file, .string b, .int .i64 k, .slice K keep.length kc, .int .i64 num]] w (DiskRes fs' cap' left' down' r w) := by
  have HR := Lib.hid hr
  clear hr
  have HN := Lib.hid hn
  have HF := Lib.hid hfine
  have _u1 := hks
  have _u2 := hkw
  have _u3 := hf
  have _u4 := hbb
  have _u5 := hnc
  clear hn hfine _u1 _u2 _u3 _u4 _u5
  go_enter Tryd.func31, Tryd.ntmps31
  go_upto_region 2 with fail
  obtain ⟨W0, hW0⟩ : ∃ W0, W0 = ((w.alloc (.cells #[.slice A n c, .int .i64 cap, .int .i64 left, .bool down] 24)).alloc (.cells #[.int .i64 0, .int .i8 op, .string file, .string b, .int .i64 k, .slice K keep.length kc, .int .i64 num] 51)).alloc (.cells #[.slice none 0 0, .int .i64 0, .int .i64 0, .bool false] 24) := ⟨_, rfl⟩
  have h0 : V3 24 51 24 #[.slice A n c, .int .i64 cap, .int .i64 left, .bool down] #[.int .i64 0, .int .i8 op, .string file, .string b, .int .i64 k, .slice K keep.length kc, .int .i64 num] #[.slice none 0 0, .int .i64 0, .int .i64 0, .bool false] B A fs w W0 := by rw [hW0]; exact V3.start hs hB
  have z0 : W0.heap.size = w.heap.size + 1 + 1 + 1 := by rw [hW0]; simp
  obtain ⟨W1, hW1⟩ : ∃ W1, W1 = W0.alloc (.cells #[.slice A n c, .int .i64 cap, .int .i64 left, .bool down] 24) := ⟨_, rfl⟩
  obtain ⟨g, hg⟩ : ∃ g, g = w.heap.size + 1 + 1 + 1 := ⟨_, rfl⟩
  have h1 := h0.next hB (bel1 W0 #[.slice A n c, .int .i64 cap, .int .i64 left, .bool down] 24)
  have o1 := new1 W0 #[.slice A n c, .int .i64 cap, .int .i64 left, .bool down] 24
  rw [← hW1] at h1 o1
  rw [z0, ← hg] at o1
  rw [← hW0, ← hW1, ← hg]
  have hgz : w.heap.size + 3 ≤ g := by omega
  clear hW0 hW1 h0 z0 hg
  obtain ⟨d0, d1, d2, d3, f1⟩ := h1.p.cells4
  obtain ⟨x0, x1, x2, x3, x4, x5, x6, f2⟩ := h1.q.cells7
  obtain ⟨e0, e1, e2, e3, f3⟩ := h1.r.cells4
  have l1 := h1.p.lt
  have l2 := h1.q.lt
  have l3 := h1.r.lt
  obtain ⟨o0, o1_, o2_, o3_, f4⟩ := o1.cells4
  have l4 := o1.lt
  go_wp2_with fail
  refine (do_any A n c B fs fs1 cap left cap1 left1 down down1 op file b k r1 _ (hG.next h1.b) HN.out h1.s (Nat.le_trans hB h1.b.size) HF.out.small hf (by omega) HF.out.2.2 HF.out.2.1 HR.out).mono ?_
  rintro e W2 ⟨A1, m1, c1, rfl, hl1, hs1, hm1, hb⟩
  have HL := Lib.hid hl1
  have h2 := h1.next hB hb
  have o2 := o1.below hb o1.lt
  clear hb h1 o1 hl1 d0 d1 d2 d3 x0 x1 x2 x3 x4 x5 x6 e0 e1 e2 e3 f1 f2 f3 l1 l2 l3 o0 o1_ o2_ o3_ f4 l4
  obtain ⟨d0, d1, d2, d3, f1⟩ := h2.p.cells4
  obtain ⟨x0, x1, x2, x3, x4, x5, x6, f2⟩ := h2.q.cells7
  obtain ⟨e0, e1, e2, e3, f3⟩ := h2.r.cells4
  have l1 := h2.p.lt
  have l2 := h2.q.lt
  have l3 := h2.r.lt
  obtain ⟨o0, o1_, o2_, o3_, f4⟩ := o2.cells4
  have l4 := o2.lt
  by_cases h0 : r1 = 0
  · rw [if_neg (fun h => h.1 h0)] at hx
    simp only [Prod.mk.injEq, Dk.mk.injEq] at hx
    obtain ⟨⟨rfl, rfl, rfl, rfl⟩, rfl⟩ := hx
    subst h0
    have sx := seen4 (a := .slice A1 m1 c1) (b := .int .i64 cap1) (c := .int .i64 left1) (d := .bool down1) hs1 o2 disk_noText
    have h3 := h2.set4 hB hgz (.slice A1 m1 c1) (.int .i64 cap1) (.int .i64 left1) (.bool down1)
    go_wp2
    refine bodyPost_ret (v := .tuple #[.agg #[.slice A1 m1 c1, .int .i64 cap1, .int .i64 left1, .bool down1], .int .i64 0]) (by simp [results, Tryd.results31, go_sem, e0, e1, e2, e3]) rfl ?_
    exact disk_out HL.out (sx.up (by simp)) hm1 h3.r disk_noText (by omega) h3.b
  have t1 : (r1 != 0) = true := by simp [h0]
  have t1b : (r1 == 0) = false := by rw [beq_eq_false_iff_ne]; exact h0
  cases down1
  · rw [if_pos ⟨h0, rfl⟩] at hx
    simp only [Prod.mk.injEq, Dk.mk.injEq] at hx
    obtain ⟨⟨rfl, rfl, rfl, rfl⟩, rfl⟩ := hx
    have h3 := h2.set4 hB hgz (.slice A1 m1 c1) (.int .i64 cap1) (.int .i64 left1) (.bool false)
    clear h0
    go_wp2
    refine bodyPost_ret (v := .tuple #[.agg #[.slice A n c, .int .i64 cap, .int .i64 left, .bool down], .int .i64 r1]) (by simp [results, Tryd.results31, go_sem, e0, e1, e2, e3]) rfl ?_
    exact disk_out HN.out (h3.s.up (Nat.le_trans hB h3.b.size)) hnc h3.r disk_noText (by omega) h3.b
  · rw [if_neg (fun h => by cases h.2)] at hx
    simp only [Prod.mk.injEq, Dk.mk.injEq] at hx
    obtain ⟨⟨rfl, rfl, rfl, rfl⟩, rfl⟩ := hx
    clear h0
    have sx := seen4 (a := .slice A1 m1 c1) (b := .int .i64 cap1) (c := .int .i64 left1) (d := .bool true) hs1 o2 disk_noText
    have h3 := h2.set4 hB hgz (.slice A1 m1 c1) (.int .i64 cap1) (.int .i64 left1) (.bool true)
    go_wp2
    refine bodyPost_ret (v := .tuple #[.agg #[.slice A1 m1 c1, .int .i64 cap1, .int .i64 left1, .bool true], .int .i64 r1]) (by simp [results, Tryd.results31, go_sem, e0, e1, e2, e3]) rfl ?_
    exact disk_out HL.out (sx.up (by simp)) hm1 h3.r disk_noText (by omega) h3.b
set_option maxRecDepth 100000 in
set_option maxHeartbeats 4000000 in
theorem does_crash (A : Option Addr) (n c B : Nat) (fs : List Fl) (cap left : Int) (down : Bool) (op : Int) (file b : ByteArray) (k : Int) (K : Option Addr) (kc : Nat) (keep : List Int) (num : Int) (w : World) (hn : fs.length = n) (hs : Seen w B A (fcells fs)) (hB : B ≤ w.heap.size) (hnc : n ≤ c) (hfine : Fine ⟨fs, cap, left, down⟩) (hks : Seen w B K (keep.map (Value.int .i64))) (hf : file.size ≤ 9223372036854775807) (hbb : b.size ≤ 4096) (hkw : ∀ y ∈ keep, -9223372036854775808 ≤ y ∧ y ≤ 9223372036854775807) (hG : Glob w) (fs1 : List Fl) (cap1 left1 : Int) (down1 : Bool) (r1 : Int) (hr : crash ⟨fs, cap, left, down⟩ keep = (⟨fs1, cap1, left1, down1⟩, r1)) (fs' : List Fl) (cap' left' : Int) (down' : Bool) (r : Int) (hx : (if r1 ≠ 0 ∧ down1 = false then ((⟨fs, cap, left, down⟩ : Dk), r1) else (⟨fs1, cap1, left1, down1⟩, r1)) = (⟨fs', cap', left', down'⟩, r)) :
    Calls Tryd.prog 31 #[.agg #[.slice A n c, .int .i64 cap, .int .i64 left, .bool down], .agg #[.int .i64 1, .int .i8 op, .string file, .string b, .int .i64 k, .slice K keep.length kc, .int .i64 num]] w (DiskRes fs' cap' left' down' r w) := by
  have HR := Lib.hid hr
  have _u6 := hG
  clear hr _u6
  have HN := Lib.hid hn
  have HF := Lib.hid hfine
  have _u1 := hks
  have _u2 := hkw
  have _u3 := hf
  have _u4 := hbb
  have _u5 := hnc
  clear hn hfine _u1 _u2 _u3 _u4 _u5
  go_enter Tryd.func31, Tryd.ntmps31
  go_upto_region 2 with fail
  obtain ⟨W0, hW0⟩ : ∃ W0, W0 = ((w.alloc (.cells #[.slice A n c, .int .i64 cap, .int .i64 left, .bool down] 24)).alloc (.cells #[.int .i64 1, .int .i8 op, .string file, .string b, .int .i64 k, .slice K keep.length kc, .int .i64 num] 51)).alloc (.cells #[.slice none 0 0, .int .i64 0, .int .i64 0, .bool false] 24) := ⟨_, rfl⟩
  have h0 : V3 24 51 24 #[.slice A n c, .int .i64 cap, .int .i64 left, .bool down] #[.int .i64 1, .int .i8 op, .string file, .string b, .int .i64 k, .slice K keep.length kc, .int .i64 num] #[.slice none 0 0, .int .i64 0, .int .i64 0, .bool false] B A fs w W0 := by rw [hW0]; exact V3.start hs hB
  have z0 : W0.heap.size = w.heap.size + 1 + 1 + 1 := by rw [hW0]; simp
  obtain ⟨W1, hW1⟩ : ∃ W1, W1 = W0.alloc (.cells #[.slice A n c, .int .i64 cap, .int .i64 left, .bool down] 24) := ⟨_, rfl⟩
  obtain ⟨g, hg⟩ : ∃ g, g = w.heap.size + 1 + 1 + 1 := ⟨_, rfl⟩
  have h1 := h0.next hB (bel1 W0 #[.slice A n c, .int .i64 cap, .int .i64 left, .bool down] 24)
  have o1 := new1 W0 #[.slice A n c, .int .i64 cap, .int .i64 left, .bool down] 24
  rw [← hW1] at h1 o1
  rw [z0, ← hg] at o1
  rw [← hW0, ← hW1, ← hg]
  have hgz : w.heap.size + 3 ≤ g := by omega
  clear hW0 hW1 h0 z0 hg
  obtain ⟨d0, d1, d2, d3, f1⟩ := h1.p.cells4
  obtain ⟨x0, x1, x2, x3, x4, x5, x6, f2⟩ := h1.q.cells7
  obtain ⟨e0, e1, e2, e3, f3⟩ := h1.r.cells4
  have l1 := h1.p.lt
  have l2 := h1.q.lt
  have l3 := h1.r.lt
  obtain ⟨o0, o1_, o2_, o3_, f4⟩ := o1.cells4
  have l4 := o1.lt
  go_wp2_with fail
  refine (crash_any A K n c B keep.length kc fs fs1 keep cap left cap1 left1 down down1 r1 _ HN.out h1.s (Nat.le_trans hB h1.b.size) HF.out.small rfl (hks.below (h1.b.mono hB)) hkw HR.out).mono ?_
  rintro e W2 ⟨A1, m1, c1, rfl, hl1, hs1, hm1, hb⟩
  have HL := Lib.hid hl1
  have h2 := h1.next hB hb
  have o2 := o1.below hb o1.lt
  clear hb h1 o1 hl1 d0 d1 d2 d3 x0 x1 x2 x3 x4 x5 x6 e0 e1 e2 e3 f1 f2 f3 l1 l2 l3 o0 o1_ o2_ o3_ f4 l4
  obtain ⟨d0, d1, d2, d3, f1⟩ := h2.p.cells4
  obtain ⟨x0, x1, x2, x3, x4, x5, x6, f2⟩ := h2.q.cells7
  obtain ⟨e0, e1, e2, e3, f3⟩ := h2.r.cells4
  have l1 := h2.p.lt
  have l2 := h2.q.lt
  have l3 := h2.r.lt
  obtain ⟨o0, o1_, o2_, o3_, f4⟩ := o2.cells4
  have l4 := o2.lt
  by_cases h0 : r1 = 0
  · rw [if_neg (fun h => h.1 h0)] at hx
    simp only [Prod.mk.injEq, Dk.mk.injEq] at hx
    obtain ⟨⟨rfl, rfl, rfl, rfl⟩, rfl⟩ := hx
    subst h0
    have sx := seen4 (a := .slice A1 m1 c1) (b := .int .i64 cap1) (c := .int .i64 left1) (d := .bool down1) hs1 o2 disk_noText
    have h3 := h2.set4 hB hgz (.slice A1 m1 c1) (.int .i64 cap1) (.int .i64 left1) (.bool down1)
    go_wp2
    refine bodyPost_ret (v := .tuple #[.agg #[.slice A1 m1 c1, .int .i64 cap1, .int .i64 left1, .bool down1], .int .i64 0]) (by simp [results, Tryd.results31, go_sem, e0, e1, e2, e3]) rfl ?_
    exact disk_out HL.out (sx.up (by simp)) hm1 h3.r disk_noText (by omega) h3.b
  have t1 : (r1 != 0) = true := by simp [h0]
  have t1b : (r1 == 0) = false := by rw [beq_eq_false_iff_ne]; exact h0
  cases down1
  · rw [if_pos ⟨h0, rfl⟩] at hx
    simp only [Prod.mk.injEq, Dk.mk.injEq] at hx
    obtain ⟨⟨rfl, rfl, rfl, rfl⟩, rfl⟩ := hx
    have h3 := h2.set4 hB hgz (.slice A1 m1 c1) (.int .i64 cap1) (.int .i64 left1) (.bool false)
    clear h0
    go_wp2
    refine bodyPost_ret (v := .tuple #[.agg #[.slice A n c, .int .i64 cap, .int .i64 left, .bool down], .int .i64 r1]) (by simp [results, Tryd.results31, go_sem, e0, e1, e2, e3]) rfl ?_
    exact disk_out HN.out (h3.s.up (Nat.le_trans hB h3.b.size)) hnc h3.r disk_noText (by omega) h3.b
  · rw [if_neg (fun h => by cases h.2)] at hx
    simp only [Prod.mk.injEq, Dk.mk.injEq] at hx
    obtain ⟨⟨rfl, rfl, rfl, rfl⟩, rfl⟩ := hx
    clear h0
    have sx := seen4 (a := .slice A1 m1 c1) (b := .int .i64 cap1) (c := .int .i64 left1) (d := .bool true) hs1 o2 disk_noText
    have h3 := h2.set4 hB hgz (.slice A1 m1 c1) (.int .i64 cap1) (.int .i64 left1) (.bool true)
    go_wp2
    refine bodyPost_ret (v := .tuple #[.agg #[.slice A1 m1 c1, .int .i64 cap1, .int .i64 left1, .bool true], .int .i64 r1]) (by simp [results, Tryd.results31, go_sem, e0, e1, e2, e3]) rfl ?_
    exact disk_out HL.out (sx.up (by simp)) hm1 h3.r disk_noText (by omega) h3.b
set_option maxRecDepth 100000 in
set_option maxHeartbeats 4000000 in
theorem does_arm (A : Option Addr) (n c B : Nat) (fs : List Fl) (cap left : Int) (down : Bool) (op : Int) (file b : ByteArray) (k : Int) (K : Option Addr) (kc : Nat) (keep : List Int) (num : Int) (w : World) (hn : fs.length = n) (hs : Seen w B A (fcells fs)) (hB : B ≤ w.heap.size) (hnc : n ≤ c) (hfine : Fine ⟨fs, cap, left, down⟩) (hks : Seen w B K (keep.map (Value.int .i64))) (hf : file.size ≤ 9223372036854775807) (hbb : b.size ≤ 4096) (hkw : ∀ y ∈ keep, -9223372036854775808 ≤ y ∧ y ≤ 9223372036854775807) (hG : Glob w) (fs1 : List Fl) (cap1 left1 : Int) (down1 : Bool) (r1 : Int) (hr : arm ⟨fs, cap, left, down⟩ num = (⟨fs1, cap1, left1, down1⟩, r1)) (fs' : List Fl) (cap' left' : Int) (down' : Bool) (r : Int) (hx : (if r1 ≠ 0 ∧ down1 = false then ((⟨fs, cap, left, down⟩ : Dk), r1) else (⟨fs1, cap1, left1, down1⟩, r1)) = (⟨fs', cap', left', down'⟩, r)) :
    Calls Tryd.prog 31 #[.agg #[.slice A n c, .int .i64 cap, .int .i64 left, .bool down], .agg #[.int .i64 2, .int .i8 op, .string file, .string b, .int .i64 k, .slice K keep.length kc, .int .i64 num]] w (DiskRes fs' cap' left' down' r w) := by
  have HR := Lib.hid hr
  have _u6 := hG
  clear hr _u6
  have HN := Lib.hid hn
  have HF := Lib.hid hfine
  have _u1 := hks
  have _u2 := hkw
  have _u3 := hf
  have _u4 := hbb
  have _u5 := hnc
  clear hn hfine _u1 _u2 _u3 _u4 _u5
  go_enter Tryd.func31, Tryd.ntmps31
  go_upto_region 2 with fail
  obtain ⟨W0, hW0⟩ : ∃ W0, W0 = ((w.alloc (.cells #[.slice A n c, .int .i64 cap, .int .i64 left, .bool down] 24)).alloc (.cells #[.int .i64 2, .int .i8 op, .string file, .string b, .int .i64 k, .slice K keep.length kc, .int .i64 num] 51)).alloc (.cells #[.slice none 0 0, .int .i64 0, .int .i64 0, .bool false] 24) := ⟨_, rfl⟩
  have h0 : V3 24 51 24 #[.slice A n c, .int .i64 cap, .int .i64 left, .bool down] #[.int .i64 2, .int .i8 op, .string file, .string b, .int .i64 k, .slice K keep.length kc, .int .i64 num] #[.slice none 0 0, .int .i64 0, .int .i64 0, .bool false] B A fs w W0 := by rw [hW0]; exact V3.start hs hB
  have z0 : W0.heap.size = w.heap.size + 1 + 1 + 1 := by rw [hW0]; simp
  obtain ⟨W1, hW1⟩ : ∃ W1, W1 = W0.alloc (.cells #[.slice A n c, .int .i64 cap, .int .i64 left, .bool down] 24) := ⟨_, rfl⟩
  obtain ⟨g, hg⟩ : ∃ g, g = w.heap.size + 1 + 1 + 1 := ⟨_, rfl⟩
  have h1 := h0.next hB (bel1 W0 #[.slice A n c, .int .i64 cap, .int .i64 left, .bool down] 24)
  have o1 := new1 W0 #[.slice A n c, .int .i64 cap, .int .i64 left, .bool down] 24
  rw [← hW1] at h1 o1
  rw [z0, ← hg] at o1
  rw [← hW0, ← hW1, ← hg]
  have hgz : w.heap.size + 3 ≤ g := by omega
  clear hW0 hW1 h0 z0 hg
  obtain ⟨d0, d1, d2, d3, f1⟩ := h1.p.cells4
  obtain ⟨x0, x1, x2, x3, x4, x5, x6, f2⟩ := h1.q.cells7
  obtain ⟨e0, e1, e2, e3, f3⟩ := h1.r.cells4
  have l1 := h1.p.lt
  have l2 := h1.q.lt
  have l3 := h1.r.lt
  obtain ⟨o0, o1_, o2_, o3_, f4⟩ := o1.cells4
  have l4 := o1.lt
  go_wp2_with fail
  refine (arm_any A n c B fs fs1 cap left num cap1 left1 down down1 r1 _ HN.out h1.s (Nat.le_trans hB h1.b.size) HF.out.small HR.out).mono ?_
  rintro e W2 ⟨A1, m1, c1, rfl, hl1, hs1, hm1, hb⟩
  have HL := Lib.hid hl1
  have h2 := h1.next hB hb
  have o2 := o1.below hb o1.lt
  clear hb h1 o1 hl1 d0 d1 d2 d3 x0 x1 x2 x3 x4 x5 x6 e0 e1 e2 e3 f1 f2 f3 l1 l2 l3 o0 o1_ o2_ o3_ f4 l4
  obtain ⟨d0, d1, d2, d3, f1⟩ := h2.p.cells4
  obtain ⟨x0, x1, x2, x3, x4, x5, x6, f2⟩ := h2.q.cells7
  obtain ⟨e0, e1, e2, e3, f3⟩ := h2.r.cells4
  have l1 := h2.p.lt
  have l2 := h2.q.lt
  have l3 := h2.r.lt
  obtain ⟨o0, o1_, o2_, o3_, f4⟩ := o2.cells4
  have l4 := o2.lt
  by_cases h0 : r1 = 0
  · rw [if_neg (fun h => h.1 h0)] at hx
    simp only [Prod.mk.injEq, Dk.mk.injEq] at hx
    obtain ⟨⟨rfl, rfl, rfl, rfl⟩, rfl⟩ := hx
    subst h0
    have sx := seen4 (a := .slice A1 m1 c1) (b := .int .i64 cap1) (c := .int .i64 left1) (d := .bool down1) hs1 o2 disk_noText
    have h3 := h2.set4 hB hgz (.slice A1 m1 c1) (.int .i64 cap1) (.int .i64 left1) (.bool down1)
    go_wp2
    refine bodyPost_ret (v := .tuple #[.agg #[.slice A1 m1 c1, .int .i64 cap1, .int .i64 left1, .bool down1], .int .i64 0]) (by simp [results, Tryd.results31, go_sem, e0, e1, e2, e3]) rfl ?_
    exact disk_out HL.out (sx.up (by simp)) hm1 h3.r disk_noText (by omega) h3.b
  have t1 : (r1 != 0) = true := by simp [h0]
  have t1b : (r1 == 0) = false := by rw [beq_eq_false_iff_ne]; exact h0
  cases down1
  · rw [if_pos ⟨h0, rfl⟩] at hx
    simp only [Prod.mk.injEq, Dk.mk.injEq] at hx
    obtain ⟨⟨rfl, rfl, rfl, rfl⟩, rfl⟩ := hx
    have h3 := h2.set4 hB hgz (.slice A1 m1 c1) (.int .i64 cap1) (.int .i64 left1) (.bool false)
    clear h0
    go_wp2
    refine bodyPost_ret (v := .tuple #[.agg #[.slice A n c, .int .i64 cap, .int .i64 left, .bool down], .int .i64 r1]) (by simp [results, Tryd.results31, go_sem, e0, e1, e2, e3]) rfl ?_
    exact disk_out HN.out (h3.s.up (Nat.le_trans hB h3.b.size)) hnc h3.r disk_noText (by omega) h3.b
  · rw [if_neg (fun h => by cases h.2)] at hx
    simp only [Prod.mk.injEq, Dk.mk.injEq] at hx
    obtain ⟨⟨rfl, rfl, rfl, rfl⟩, rfl⟩ := hx
    clear h0
    have sx := seen4 (a := .slice A1 m1 c1) (b := .int .i64 cap1) (c := .int .i64 left1) (d := .bool true) hs1 o2 disk_noText
    have h3 := h2.set4 hB hgz (.slice A1 m1 c1) (.int .i64 cap1) (.int .i64 left1) (.bool true)
    go_wp2
    refine bodyPost_ret (v := .tuple #[.agg #[.slice A1 m1 c1, .int .i64 cap1, .int .i64 left1, .bool true], .int .i64 r1]) (by simp [results, Tryd.results31, go_sem, e0, e1, e2, e3]) rfl ?_
    exact disk_out HL.out (sx.up (by simp)) hm1 h3.r disk_noText (by omega) h3.b
set_option maxRecDepth 100000 in
set_option maxHeartbeats 4000000 in
theorem does_none (A : Option Addr) (n c B : Nat) (fs : List Fl) (cap left : Int) (down : Bool) (act : Int) (op : Int) (file b : ByteArray) (k : Int) (K : Option Addr) (kc : Nat) (keep : List Int) (num : Int) (w : World) (hn : fs.length = n) (hs : Seen w B A (fcells fs)) (hB : B ≤ w.heap.size) (hnc : n ≤ c) (hfine : Fine ⟨fs, cap, left, down⟩) (hks : Seen w B K (keep.map (Value.int .i64))) (hf : file.size ≤ 9223372036854775807) (hbb : b.size ≤ 4096) (hkw : ∀ y ∈ keep, -9223372036854775808 ≤ y ∧ y ≤ 9223372036854775807) (hG : Glob w) (a0 : act ≠ 0) (a1 : act ≠ 1) (a2 : act ≠ 2) :
    Calls Tryd.prog 31 #[.agg #[.slice A n c, .int .i64 cap, .int .i64 left, .bool down], .agg #[.int .i64 act, .int .i8 op, .string file, .string b, .int .i64 k, .slice K keep.length kc, .int .i64 num]] w (DiskRes fs cap left down 0 w) := by
  have _u6 := hG
  clear _u6
  have y0 : (act == 0) = false := by rw [beq_eq_false_iff_ne]; exact a0
  have y1 : (act == 1) = false := by rw [beq_eq_false_iff_ne]; exact a1
  have y2 : (act == 2) = false := by rw [beq_eq_false_iff_ne]; exact a2
  clear a0 a1 a2
  have HN := Lib.hid hn
  have HF := Lib.hid hfine
  have _u1 := hks
  have _u2 := hkw
  have _u3 := hf
  have _u4 := hbb
  have _u5 := hnc
  clear hn hfine _u1 _u2 _u3 _u4 _u5
  go_enter Tryd.func31, Tryd.ntmps31
  go_upto_region 2 with fail
  obtain ⟨W0, hW0⟩ : ∃ W0, W0 = ((w.alloc (.cells #[.slice A n c, .int .i64 cap, .int .i64 left, .bool down] 24)).alloc (.cells #[.int .i64 act, .int .i8 op, .string file, .string b, .int .i64 k, .slice K keep.length kc, .int .i64 num] 51)).alloc (.cells #[.slice none 0 0, .int .i64 0, .int .i64 0, .bool false] 24) := ⟨_, rfl⟩
  have h0 : V3 24 51 24 #[.slice A n c, .int .i64 cap, .int .i64 left, .bool down] #[.int .i64 act, .int .i8 op, .string file, .string b, .int .i64 k, .slice K keep.length kc, .int .i64 num] #[.slice none 0 0, .int .i64 0, .int .i64 0, .bool false] B A fs w W0 := by rw [hW0]; exact V3.start hs hB
  have z0 : W0.heap.size = w.heap.size + 1 + 1 + 1 := by rw [hW0]; simp
  obtain ⟨W1, hW1⟩ : ∃ W1, W1 = W0.alloc (.cells #[.slice A n c, .int .i64 cap, .int .i64 left, .bool down] 24) := ⟨_, rfl⟩
  obtain ⟨g, hg⟩ : ∃ g, g = w.heap.size + 1 + 1 + 1 := ⟨_, rfl⟩
  have h1 := h0.next hB (bel1 W0 #[.slice A n c, .int .i64 cap, .int .i64 left, .bool down] 24)
  have o1 := new1 W0 #[.slice A n c, .int .i64 cap, .int .i64 left, .bool down] 24
  rw [← hW1] at h1 o1
  rw [z0, ← hg] at o1
  rw [← hW0, ← hW1, ← hg]
  have hgz : w.heap.size + 3 ≤ g := by omega
  clear hW0 hW1 h0 z0 hg
  obtain ⟨d0, d1, d2, d3, f1⟩ := h1.p.cells4
  obtain ⟨x0, x1, x2, x3, x4, x5, x6, f2⟩ := h1.q.cells7
  obtain ⟨e0, e1, e2, e3, f3⟩ := h1.r.cells4
  have l1 := h1.p.lt
  have l2 := h1.q.lt
  have l3 := h1.r.lt
  obtain ⟨o0, o1_, o2_, o3_, f4⟩ := o1.cells4
  have l4 := o1.lt
  go_wp2
  refine bodyPost_ret (v := .tuple #[.agg #[.slice A n c, .int .i64 cap, .int .i64 left, .bool down], .int .i64 0]) (by simp [results, Tryd.results31, go_sem, e0, e1, e2, e3]) rfl ?_
  exact disk_out HN.out (h1.s.up (Nat.le_trans hB h1.b.size)) hnc h1.r disk_noText (by omega) h1.b
/-- The law's does is what the plain words say. -/
theorem does_law (A : Option Addr) (n c B : Nat) (fs : List Fl) (cap left : Int) (down : Bool) (act : Int) (op : Int) (file b : ByteArray) (k : Int) (K : Option Addr) (kc : Nat) (keep : List Int) (num : Int) (w : World) (hn : fs.length = n) (hs : Seen w B A (fcells fs)) (hB : B ≤ w.heap.size) (hnc : n ≤ c) (hfine : Fine ⟨fs, cap, left, down⟩) (hks : Seen w B K (keep.map (Value.int .i64))) (hf : file.size ≤ 9223372036854775807) (hbb : b.size ≤ 4096) (hkw : ∀ y ∈ keep, -9223372036854775808 ≤ y ∧ y ≤ 9223372036854775807) (hG : Glob w) (fs' : List Fl) (cap' left' : Int) (down' : Bool) (r : Int) (hr : behind ⟨fs, cap, left, down⟩ ⟨act, ⟨op, file, b, k⟩, keep, num⟩ = (⟨fs', cap', left', down'⟩, r)) :
    Calls Tryd.prog 31 #[.agg #[.slice A n c, .int .i64 cap, .int .i64 left, .bool down], .agg #[.int .i64 act, .int .i8 op, .string file, .string b, .int .i64 k, .slice K keep.length kc, .int .i64 num]] w (DiskRes fs' cap' left' down' r w) := by
  unfold behind at hr
  obtain ⟨fs1, cap1, left1, down1, r1, h1⟩ : ∃ fs1 cap1 left1 down1 r1, acts ⟨fs, cap, left, down⟩ ⟨act, ⟨op, file, b, k⟩, keep, num⟩ = (⟨fs1, cap1, left1, down1⟩, r1) := ⟨_, _, _, _, _, rfl⟩
  simp only [h1] at hr
  unfold acts at h1
  simp only at h1
  by_cases a0 : act = 0
  · rw [if_pos a0] at h1
    subst a0
    exact does_do A n c B fs cap left down op file b k K kc keep num w hn hs hB hnc hfine hks hf hbb hkw hG fs1 cap1 left1 down1 r1 h1 fs' cap' left' down' r hr
  rw [if_neg a0] at h1
  by_cases a1 : act = 1
  · rw [if_pos a1] at h1
    subst a1
    exact does_crash A n c B fs cap left down op file b k K kc keep num w hn hs hB hnc hfine hks hf hbb hkw hG fs1 cap1 left1 down1 r1 h1 fs' cap' left' down' r hr
  rw [if_neg a1] at h1
  by_cases a2 : act = 2
  · rw [if_pos a2] at h1
    subst a2
    exact does_arm A n c B fs cap left down op file b k K kc keep num w hn hs hB hnc hfine hks hf hbb hkw hG fs1 cap1 left1 down1 r1 h1 fs' cap' left' down' r hr
  rw [if_neg a2] at h1
  simp only [Prod.mk.injEq, Dk.mk.injEq] at h1
  obtain ⟨⟨rfl, rfl, rfl, rfl⟩, rfl⟩ := h1
  rw [if_neg (fun h => h.1 rfl)] at hr
  simp only [Prod.mk.injEq, Dk.mk.injEq] at hr
  obtain ⟨⟨rfl, rfl, rfl, rfl⟩, rfl⟩ := hr
  exact does_none A n c B fs cap left down act op file b k K kc keep num w hn hs hB hnc hfine hks hf hbb hkw hG a0 a1 a2
end Go.Proofs.YtbglpmjfajmkdaaDoor
