/-
  The contract of the reference's Do: behind with. Conditions: those that each theorem names.
-/
import Derived.Test.YtpppeadmhfggkaaGreatDoorDskRefDoA
import Derived.Test.YtpppeadmhfggkaaGreatDoorDskDo
namespace Go.Proofs.YtpppeadmhfggkaaGreatDoor
open Go.RowKit DP

set_option maxRecDepth 100000 in
set_option maxHeartbeats 2000000 in
theorem rdo_31_0t (A : Option Addr) (n c B : Nat) (fs : List Fl) (cap left : Int) (down : Bool) (file b : ByteArray)  (w : World) (hn : fs.length = n) (hs : Seen w B A (fcells fs)) (hB : B ≤ w.heap.size) (hsm : Small fs) (hnc : n ≤ c) (hf : file.size ≤ 9223372036854775807) (hc : check ⟨fs, cap, left, down⟩ = true) (hop : isOp ⟨0, file, b, 0⟩ = true) (hd : down = false) (hl : left ≠ 0) (fn fb : ByteArray) (s : Int) (hg : GetRes fs file fn fb s true) (hfb : fb.size ≤ 65536) (hb0 : 0 < b.size) (hbb : b.size ≤ 300000) (hlen : (put fs ⟨file, (fb ++ b), s⟩).length ≤ 64) (hus : cap < (used (put fs ⟨file, (fb ++ b), s⟩) : Int)) : Calls Tryz.prog 24 #[.agg #[.slice A n c, .int .i64 cap, .int .i64 left, .bool down], .agg #[.int .i8 0, .string file, .string b, .int .i64 0]] w (DiskRes [] 0 0 false 31 w) := by
  subst hd
  have _q1 := hfb
  clear _q1
  have _q2 := hb0
  have _q3 := hbb
  clear _q2 _q3
  have y0 : (left == 0) = false := by rw [beq_eq_false_iff_ne]; exact hl
  have HG := Lib.hid hg
  have hgs : ((fb ++ b) : ByteArray).size ≤ 400000 := by rw [cat_size]; omega
  have HSM := Lib.hid (put_small (f := ⟨file, (fb ++ b), s⟩) (check_small hc) (Nat.le_trans (check_parts hc).1 (by decide)) hgs (by have := okName_le (isOp_ways hop).1; show file.size ≤ 100; omega))
  have hpw := (check_sorted hc).1
  have HPW := Lib.hid hpw
  have HLEN := Lib.hid hlen
  have HUS := Lib.hid hus
  clear hg hl hpw hlen hus
  have HOP := Lib.hid hop
  clear hop
  have HN := Lib.hid hn
  have HC : Hid (code (check ⟨fs, cap, left, false⟩) = 0) := by show _ = _; rw [hc]; rfl
  have _u1 := hnc
  have _u2 := hf
  clear hn hc _u1 _u2
  go_enter Tryz.func24, Tryz.ntmps24
  go_wp2_with fail
  obtain ⟨W0, hW0⟩ : ∃ W0, W0 = ((w.alloc (.cells #[.slice A n c, .int .i64 cap, .int .i64 left, .bool false] 24)).alloc (.cells #[.int .i8 0, .string file, .string b, .int .i64 0] 50)).alloc (.cells #[.slice none 0 0, .int .i64 0, .int .i64 0, .bool false] 24) := ⟨_, rfl⟩
  have h0 : V3 24 50 24 #[.slice A n c, .int .i64 cap, .int .i64 left, .bool false] #[.int .i8 0, .string file, .string b, .int .i64 0] #[.slice none 0 0, .int .i64 0, .int .i64 0, .bool false] B A fs w W0 := by rw [hW0]; exact V3.start hs hB
  rw [← hW0]
  clear hW0
  refine (ref_check_any A n c B fs cap left false 0 _ HN.out HC.out h0.s (Nat.le_trans hB h0.b.size) hsm).mono ?_
  rintro e W1 ⟨rfl, hx⟩
  have h1 := h0.next hB hx
  clear hx h0
  obtain ⟨d0, d1, d2, d3, f1⟩ := h1.p.cells4
  obtain ⟨g0, g1, g2, g3, f2⟩ := h1.q.cells4
  obtain ⟨e0, e1, e2, e3, f3⟩ := h1.r.cells4
  have l1 := h1.p.lt
  have l2 := h1.q.lt
  have l3 := h1.r.lt
  go_wp2_with fail
  refine (ref_may_any 0 file b 0 true _ hf HOP.out).mono ?_
  rintro e W2 ⟨rfl, hx⟩
  have h2 := h1.next hB hx
  clear hx h1 d0 d1 d2 d3 g0 g1 g2 g3 e0 e1 e2 e3 f1 f2 f3 l1 l2 l3
  obtain ⟨d0, d1, d2, d3, f1⟩ := h2.p.cells4
  obtain ⟨g0, g1, g2, g3, f2⟩ := h2.q.cells4
  obtain ⟨e0, e1, e2, e3, f3⟩ := h2.r.cells4
  have l1 := h2.p.lt
  have l2 := h2.q.lt
  have l3 := h2.r.lt
  go_wp2_with fail
  refine (ref_get_any A n c B fs cap left false file fn fb s true _ HG.out HN.out h2.s (Nat.le_trans hB h2.b.size) (by have := HN.out; have := hsm.1; omega)).mono ?_
  rintro e W3 ⟨rfl, hx⟩
  have h3 := h2.next hB hx
  clear hx h2 d0 d1 d2 d3 g0 g1 g2 g3 e0 e1 e2 e3 f1 f2 f3 l1 l2 l3
  obtain ⟨d0, d1, d2, d3, f1⟩ := h3.p.cells4
  obtain ⟨g0, g1, g2, g3, f2⟩ := h3.q.cells4
  obtain ⟨e0, e1, e2, e3, f3⟩ := h3.r.cells4
  have l1 := h3.p.lt
  have l2 := h3.q.lt
  have l3 := h3.r.lt
  go_upto_region 9 with fail
  obtain ⟨W5, hW5⟩ : ∃ W5, W5 = W3.alloc (.cells #[.string fn, .string fb, .int .i64 s] 48) := ⟨_, rfl⟩
  obtain ⟨g6, hg6⟩ : ∃ g6, g6 = W3.heap.size := ⟨_, rfl⟩
  have h5 := h3.next hB (bel1 W3 #[.string fn, .string fb, .int .i64 s] 48)
  rw [← hW5] at h5
  have u5 : Var W5 g6 48 #[.string fn, .string fb, .int .i64 s] := by rw [hW5, hg6]; exact new1 W3 _ _
  have hg6z : w.heap.size + 3 ≤ g6 := by rw [hg6]; exact h3.z
  rw [← hW5, ← hg6]
  clear hW5 hg6 h3 d0 d1 d2 d3 g0 g1 g2 g3 e0 e1 e2 e3 f1 f2 f3 l1 l2 l3
  obtain ⟨d0, d1, d2, d3, f1⟩ := h5.p.cells4
  obtain ⟨g0, g1, g2, g3, f2⟩ := h5.q.cells4
  obtain ⟨e0, e1, e2, e3, f3⟩ := h5.r.cells4
  have l1 := h5.p.lt
  have l2 := h5.q.lt
  have l3 := h5.r.lt
  obtain ⟨i0, i1, i2, f4⟩ := u5.cells3
  have l4 := u5.lt
  obtain ⟨W6, hW6⟩ : ∃ W6, W6 = ((W5.setCell ⟨g6, 0, none⟩ (.string file)).setCell ⟨g6, 1, none⟩ (.string (fb ++ b))) := ⟨_, rfl⟩
  have h6 := ((h5.set hB 0 (.string file) hg6z).set hB 1 (.string (fb ++ b)) hg6z)
  have u6 : Var W6 g6 48 #[.string file, .string (fb ++ b), .int .i64 s] := by rw [hW6]; simpa using ((u5.set 0 (.string file)).set 1 (.string (fb ++ b)))
  rw [← hW6] at h6
  have z6 : W6.heap.size = W5.heap.size := by rw [hW6]; simp
  obtain ⟨g8, hg8⟩ : ∃ g8, g8 = W5.heap.size := ⟨_, rfl⟩
  obtain ⟨W7, hW7⟩ : ∃ W7, W7 = W6.alloc (.cells #[.slice A n c, .int .i64 cap, .int .i64 left, .bool false] 24) := ⟨_, rfl⟩
  have h7 := h6.next hB (bel1 W6 #[.slice A n c, .int .i64 cap, .int .i64 left, .bool false] 24)
  rw [← hW7] at h7
  have o7 : Var W7 g8 24 #[.slice A n c, .int .i64 cap, .int .i64 left, .bool false] := by
    have h := new1 W6 #[.slice A n c, .int .i64 cap, .int .i64 left, .bool false] 24
    rw [z6, ← hg8, ← hW7] at h
    exact h
  have hg8z : w.heap.size + 3 ≤ g8 := by rw [hg8]; exact h5.z
  go_wp2_with fail
  rw [← hW6, ← hg8, ← hW7]
  clear hW6 hW7 hg8 h6 z6 u6 h5 u5 d0 d1 d2 d3 g0 g1 g2 g3 e0 e1 e2 e3 f1 f2 f3 l1 l2 l3 i0 i1 i2 f4 l4
  refine (ref_with_any A n c B fs file (fb ++ b) s _ HN.out h7.s (Nat.le_trans hB h7.b.size) (by have := HN.out; have := hsm.1; omega) (Nat.le_trans hgs (by decide)) HPW.out).mono ?_
  rintro e W8 ⟨A8, m8, c8, rfl, hl8, hs8, hm8, hx⟩
  have HL8 := Lib.hid hl8
  have h8 := h7.next hB hx
  have o8 := o7.below hx o7.lt
  clear hl8 hx h7 o7
  have hs9 : Seen (W8.setCell ⟨g8, 0, none⟩ (.slice A8 m8 c8)) W8.heap.size A8 (fcells (put fs ⟨file, (fb ++ b), s⟩)) := hs8.off (seen_apart hs8 o8 disk_noText)
  have h9 := h8.set hB 0 (.slice A8 m8 c8) hg8z
  have o9 : Var (W8.setCell ⟨g8, 0, none⟩ (.slice A8 m8 c8)) g8 24 #[.slice A8 m8 c8, .int .i64 cap, .int .i64 left, .bool false] := by simpa using o8.set 0 (.slice A8 m8 c8)
  obtain ⟨d0, d1, d2, d3, f1⟩ := h8.p.cells4
  obtain ⟨g0, g1, g2, g3, f2⟩ := h8.q.cells4
  obtain ⟨e0, e1, e2, e3, f3⟩ := h8.r.cells4
  have l1 := h8.p.lt
  have l2 := h8.q.lt
  have l3 := h8.r.lt
  obtain ⟨i0, i1, i2, i3, f4⟩ := o8.cells4
  have l4 := o8.lt
  have hm64 : m8 ≤ 64 := by rw [← HL8.out]; exact HLEN.out
  have t1 : decide ((64 : Int) < (m8 : Int)) = false := bool_dec _ (by omega)
  go_wp2_with fail
  obtain ⟨W9, hW9⟩ : ∃ W9, W9 = W8.setCell ⟨g8, 0, none⟩ (.slice A8 m8 c8) := ⟨_, rfl⟩
  rw [← hW9] at h9 o9 hs9 ⊢
  have hz9 : W8.heap.size ≤ W9.heap.size := by rw [hW9]; simp
  clear hW9 h8 o8 d0 d1 d2 d3 g0 g1 g2 g3 e0 e1 e2 e3 f1 f2 f3 l1 l2 l3 i0 i1 i2 i3 f4 l4 hs8 t1
  obtain ⟨u, hu⟩ : ∃ u, used (put fs ⟨file, (fb ++ b), s⟩) = u := ⟨_, rfl⟩
  have HU := Lib.hid hu
  have hx0 := fun (x : After W9) => (Var.cells4 (o9.below x.below o9.lt)).1
  have hx1 := fun (x : After W9) => (Var.cells4 (o9.below x.below o9.lt)).2.1
  have hx2 := fun (x : After W9) => (Var.cells4 (o9.below x.below o9.lt)).2.2.1
  have hx3 := fun (x : After W9) => (Var.cells4 (o9.below x.below o9.lt)).2.2.2.1
  have t5 : decide (cap < (u : Int)) = true := decide_eq_true (by have := HUS.out; rw [hu] at this; exact this)
  clear hu
  refine wp_region_after (by kernel_rfl) (by kernel_rfl) ?_
  repeat (go_big_quiet_step ((go_at_call 41; exact Calls.after (ref_used_any A8 m8 c8 W8.heap.size (put fs ⟨file, (fb ++ b), s⟩) cap left false u _ HL8.out HU.out (hs9.below ((After.below _).mono hz9)) (Nat.le_trans hz9 (After.below _).size) HSM.out))))
  refine wpQuiet_nil ?_
  rintro _ ⟨x, rfl⟩
  obtain ⟨Wa, hWa⟩ : ∃ Wa, Wa = x.val := ⟨_, rfl⟩
  have ha := h9.next hB x.below
  have oa := o9.below x.below o9.lt
  have hsa := (hs9.below (x.below.mono hz9)).up (Nat.le_trans hz9 x.below.size)
  rw [← hWa] at ha oa hsa ⊢
  clear hWa hx0 hx1 hx2 hx3 h9 o9 hs9 x
  obtain ⟨d0, d1, d2, d3, f1⟩ := ha.p.cells4
  obtain ⟨g0, g1, g2, g3, f2⟩ := ha.q.cells4
  obtain ⟨e0, e1, e2, e3, f3⟩ := ha.r.cells4
  have l1 := ha.p.lt
  have l2 := ha.q.lt
  have l3 := ha.r.lt
  obtain ⟨i0, i1, i2, i3, f4⟩ := oa.cells4
  have l4 := oa.lt
  go_wp2
  refine bodyPost_ret (v := .tuple #[.agg #[.slice none 0 0, .int .i64 0, .int .i64 0, .bool false], .int .i64 31]) (by simp [results, Tryz.results24, go_sem, e0, e1, e2, e3]) rfl (disk_out rfl (Seen.nil _ _ _) (Nat.le_refl _) ha.r disk_noText (by omega) ha.b)
set_option maxRecDepth 100000 in
set_option maxHeartbeats 2000000 in
theorem rdo_31_0f (A : Option Addr) (n c B : Nat) (fs : List Fl) (cap left : Int) (down : Bool) (file b : ByteArray)  (w : World) (hn : fs.length = n) (hs : Seen w B A (fcells fs)) (hB : B ≤ w.heap.size) (hsm : Small fs) (hnc : n ≤ c) (hf : file.size ≤ 9223372036854775807) (hc : check ⟨fs, cap, left, down⟩ = true) (hop : isOp ⟨0, file, b, 0⟩ = true) (hd : down = false) (hl : left ≠ 0) (fn fb : ByteArray) (s : Int) (hg : GetRes fs file fn fb s false) (hfb : fb.size ≤ 65536) (hb0 : 0 < b.size) (hbb : b.size ≤ 300000) (hlen : (put fs ⟨file, (fb ++ b), s⟩).length ≤ 64) (hus : cap < (used (put fs ⟨file, (fb ++ b), s⟩) : Int)) : Calls Tryz.prog 24 #[.agg #[.slice A n c, .int .i64 cap, .int .i64 left, .bool down], .agg #[.int .i8 0, .string file, .string b, .int .i64 0]] w (DiskRes [] 0 0 false 31 w) := by
  subst hd
  have _q1 := hfb
  clear _q1
  have _q2 := hb0
  have _q3 := hbb
  clear _q2 _q3
  have y0 : (left == 0) = false := by rw [beq_eq_false_iff_ne]; exact hl
  have HG := Lib.hid hg
  have hgs : ((fb ++ b) : ByteArray).size ≤ 400000 := by rw [cat_size]; omega
  have HSM := Lib.hid (put_small (f := ⟨file, (fb ++ b), s⟩) (check_small hc) (Nat.le_trans (check_parts hc).1 (by decide)) hgs (by have := okName_le (isOp_ways hop).1; show file.size ≤ 100; omega))
  have hpw := (check_sorted hc).1
  have HPW := Lib.hid hpw
  have HLEN := Lib.hid hlen
  have HUS := Lib.hid hus
  clear hg hl hpw hlen hus
  have HOP := Lib.hid hop
  clear hop
  have HN := Lib.hid hn
  have HC : Hid (code (check ⟨fs, cap, left, false⟩) = 0) := by show _ = _; rw [hc]; rfl
  have _u1 := hnc
  have _u2 := hf
  clear hn hc _u1 _u2
  go_enter Tryz.func24, Tryz.ntmps24
  go_wp2_with fail
  obtain ⟨W0, hW0⟩ : ∃ W0, W0 = ((w.alloc (.cells #[.slice A n c, .int .i64 cap, .int .i64 left, .bool false] 24)).alloc (.cells #[.int .i8 0, .string file, .string b, .int .i64 0] 50)).alloc (.cells #[.slice none 0 0, .int .i64 0, .int .i64 0, .bool false] 24) := ⟨_, rfl⟩
  have h0 : V3 24 50 24 #[.slice A n c, .int .i64 cap, .int .i64 left, .bool false] #[.int .i8 0, .string file, .string b, .int .i64 0] #[.slice none 0 0, .int .i64 0, .int .i64 0, .bool false] B A fs w W0 := by rw [hW0]; exact V3.start hs hB
  rw [← hW0]
  clear hW0
  refine (ref_check_any A n c B fs cap left false 0 _ HN.out HC.out h0.s (Nat.le_trans hB h0.b.size) hsm).mono ?_
  rintro e W1 ⟨rfl, hx⟩
  have h1 := h0.next hB hx
  clear hx h0
  obtain ⟨d0, d1, d2, d3, f1⟩ := h1.p.cells4
  obtain ⟨g0, g1, g2, g3, f2⟩ := h1.q.cells4
  obtain ⟨e0, e1, e2, e3, f3⟩ := h1.r.cells4
  have l1 := h1.p.lt
  have l2 := h1.q.lt
  have l3 := h1.r.lt
  go_wp2_with fail
  refine (ref_may_any 0 file b 0 true _ hf HOP.out).mono ?_
  rintro e W2 ⟨rfl, hx⟩
  have h2 := h1.next hB hx
  clear hx h1 d0 d1 d2 d3 g0 g1 g2 g3 e0 e1 e2 e3 f1 f2 f3 l1 l2 l3
  obtain ⟨d0, d1, d2, d3, f1⟩ := h2.p.cells4
  obtain ⟨g0, g1, g2, g3, f2⟩ := h2.q.cells4
  obtain ⟨e0, e1, e2, e3, f3⟩ := h2.r.cells4
  have l1 := h2.p.lt
  have l2 := h2.q.lt
  have l3 := h2.r.lt
  go_wp2_with fail
  refine (ref_get_any A n c B fs cap left false file fn fb s false _ HG.out HN.out h2.s (Nat.le_trans hB h2.b.size) (by have := HN.out; have := hsm.1; omega)).mono ?_
  rintro e W3 ⟨rfl, hx⟩
  have h3 := h2.next hB hx
  clear hx h2 d0 d1 d2 d3 g0 g1 g2 g3 e0 e1 e2 e3 f1 f2 f3 l1 l2 l3
  obtain ⟨d0, d1, d2, d3, f1⟩ := h3.p.cells4
  obtain ⟨g0, g1, g2, g3, f2⟩ := h3.q.cells4
  obtain ⟨e0, e1, e2, e3, f3⟩ := h3.r.cells4
  have l1 := h3.p.lt
  have l2 := h3.q.lt
  have l3 := h3.r.lt
  go_upto_region 9 with fail
  obtain ⟨W5, hW5⟩ : ∃ W5, W5 = W3.alloc (.cells #[.string fn, .string fb, .int .i64 s] 48) := ⟨_, rfl⟩
  obtain ⟨g6, hg6⟩ : ∃ g6, g6 = W3.heap.size := ⟨_, rfl⟩
  have h5 := h3.next hB (bel1 W3 #[.string fn, .string fb, .int .i64 s] 48)
  rw [← hW5] at h5
  have u5 : Var W5 g6 48 #[.string fn, .string fb, .int .i64 s] := by rw [hW5, hg6]; exact new1 W3 _ _
  have hg6z : w.heap.size + 3 ≤ g6 := by rw [hg6]; exact h3.z
  rw [← hW5, ← hg6]
  clear hW5 hg6 h3 d0 d1 d2 d3 g0 g1 g2 g3 e0 e1 e2 e3 f1 f2 f3 l1 l2 l3
  obtain ⟨d0, d1, d2, d3, f1⟩ := h5.p.cells4
  obtain ⟨g0, g1, g2, g3, f2⟩ := h5.q.cells4
  obtain ⟨e0, e1, e2, e3, f3⟩ := h5.r.cells4
  have l1 := h5.p.lt
  have l2 := h5.q.lt
  have l3 := h5.r.lt
  obtain ⟨i0, i1, i2, f4⟩ := u5.cells3
  have l4 := u5.lt
  obtain ⟨W6, hW6⟩ : ∃ W6, W6 = ((W5.setCell ⟨g6, 0, none⟩ (.string file)).setCell ⟨g6, 1, none⟩ (.string (fb ++ b))) := ⟨_, rfl⟩
  have h6 := ((h5.set hB 0 (.string file) hg6z).set hB 1 (.string (fb ++ b)) hg6z)
  have u6 : Var W6 g6 48 #[.string file, .string (fb ++ b), .int .i64 s] := by rw [hW6]; simpa using ((u5.set 0 (.string file)).set 1 (.string (fb ++ b)))
  rw [← hW6] at h6
  have z6 : W6.heap.size = W5.heap.size := by rw [hW6]; simp
  obtain ⟨g8, hg8⟩ : ∃ g8, g8 = W5.heap.size := ⟨_, rfl⟩
  obtain ⟨W7, hW7⟩ : ∃ W7, W7 = W6.alloc (.cells #[.slice A n c, .int .i64 cap, .int .i64 left, .bool false] 24) := ⟨_, rfl⟩
  have h7 := h6.next hB (bel1 W6 #[.slice A n c, .int .i64 cap, .int .i64 left, .bool false] 24)
  rw [← hW7] at h7
  have o7 : Var W7 g8 24 #[.slice A n c, .int .i64 cap, .int .i64 left, .bool false] := by
    have h := new1 W6 #[.slice A n c, .int .i64 cap, .int .i64 left, .bool false] 24
    rw [z6, ← hg8, ← hW7] at h
    exact h
  have hg8z : w.heap.size + 3 ≤ g8 := by rw [hg8]; exact h5.z
  go_wp2_with fail
  rw [← hW6, ← hg8, ← hW7]
  clear hW6 hW7 hg8 h6 z6 u6 h5 u5 d0 d1 d2 d3 g0 g1 g2 g3 e0 e1 e2 e3 f1 f2 f3 l1 l2 l3 i0 i1 i2 f4 l4
  refine (ref_with_any A n c B fs file (fb ++ b) s _ HN.out h7.s (Nat.le_trans hB h7.b.size) (by have := HN.out; have := hsm.1; omega) (Nat.le_trans hgs (by decide)) HPW.out).mono ?_
  rintro e W8 ⟨A8, m8, c8, rfl, hl8, hs8, hm8, hx⟩
  have HL8 := Lib.hid hl8
  have h8 := h7.next hB hx
  have o8 := o7.below hx o7.lt
  clear hl8 hx h7 o7
  have hs9 : Seen (W8.setCell ⟨g8, 0, none⟩ (.slice A8 m8 c8)) W8.heap.size A8 (fcells (put fs ⟨file, (fb ++ b), s⟩)) := hs8.off (seen_apart hs8 o8 disk_noText)
  have h9 := h8.set hB 0 (.slice A8 m8 c8) hg8z
  have o9 : Var (W8.setCell ⟨g8, 0, none⟩ (.slice A8 m8 c8)) g8 24 #[.slice A8 m8 c8, .int .i64 cap, .int .i64 left, .bool false] := by simpa using o8.set 0 (.slice A8 m8 c8)
  obtain ⟨d0, d1, d2, d3, f1⟩ := h8.p.cells4
  obtain ⟨g0, g1, g2, g3, f2⟩ := h8.q.cells4
  obtain ⟨e0, e1, e2, e3, f3⟩ := h8.r.cells4
  have l1 := h8.p.lt
  have l2 := h8.q.lt
  have l3 := h8.r.lt
  obtain ⟨i0, i1, i2, i3, f4⟩ := o8.cells4
  have l4 := o8.lt
  have hm64 : m8 ≤ 64 := by rw [← HL8.out]; exact HLEN.out
  have t1 : decide ((64 : Int) < (m8 : Int)) = false := bool_dec _ (by omega)
  go_wp2_with fail
  obtain ⟨W9, hW9⟩ : ∃ W9, W9 = W8.setCell ⟨g8, 0, none⟩ (.slice A8 m8 c8) := ⟨_, rfl⟩
  rw [← hW9] at h9 o9 hs9 ⊢
  have hz9 : W8.heap.size ≤ W9.heap.size := by rw [hW9]; simp
  clear hW9 h8 o8 d0 d1 d2 d3 g0 g1 g2 g3 e0 e1 e2 e3 f1 f2 f3 l1 l2 l3 i0 i1 i2 i3 f4 l4 hs8 t1
  obtain ⟨u, hu⟩ : ∃ u, used (put fs ⟨file, (fb ++ b), s⟩) = u := ⟨_, rfl⟩
  have HU := Lib.hid hu
  have hx0 := fun (x : After W9) => (Var.cells4 (o9.below x.below o9.lt)).1
  have hx1 := fun (x : After W9) => (Var.cells4 (o9.below x.below o9.lt)).2.1
  have hx2 := fun (x : After W9) => (Var.cells4 (o9.below x.below o9.lt)).2.2.1
  have hx3 := fun (x : After W9) => (Var.cells4 (o9.below x.below o9.lt)).2.2.2.1
  have t5 : decide (cap < (u : Int)) = true := decide_eq_true (by have := HUS.out; rw [hu] at this; exact this)
  clear hu
  refine wp_region_after (by kernel_rfl) (by kernel_rfl) ?_
  repeat (go_big_quiet_step ((go_at_call 41; exact Calls.after (ref_used_any A8 m8 c8 W8.heap.size (put fs ⟨file, (fb ++ b), s⟩) cap left false u _ HL8.out HU.out (hs9.below ((After.below _).mono hz9)) (Nat.le_trans hz9 (After.below _).size) HSM.out))))
  refine wpQuiet_nil ?_
  rintro _ ⟨x, rfl⟩
  obtain ⟨Wa, hWa⟩ : ∃ Wa, Wa = x.val := ⟨_, rfl⟩
  have ha := h9.next hB x.below
  have oa := o9.below x.below o9.lt
  have hsa := (hs9.below (x.below.mono hz9)).up (Nat.le_trans hz9 x.below.size)
  rw [← hWa] at ha oa hsa ⊢
  clear hWa hx0 hx1 hx2 hx3 h9 o9 hs9 x
  obtain ⟨d0, d1, d2, d3, f1⟩ := ha.p.cells4
  obtain ⟨g0, g1, g2, g3, f2⟩ := ha.q.cells4
  obtain ⟨e0, e1, e2, e3, f3⟩ := ha.r.cells4
  have l1 := ha.p.lt
  have l2 := ha.q.lt
  have l3 := ha.r.lt
  obtain ⟨i0, i1, i2, i3, f4⟩ := oa.cells4
  have l4 := oa.lt
  go_wp2
  refine bodyPost_ret (v := .tuple #[.agg #[.slice none 0 0, .int .i64 0, .int .i64 0, .bool false], .int .i64 31]) (by simp [results, Tryz.results24, go_sem, e0, e1, e2, e3]) rfl (disk_out rfl (Seen.nil _ _ _) (Nat.le_refl _) ha.r disk_noText (by omega) ha.b)
set_option maxRecDepth 100000 in
set_option maxHeartbeats 2000000 in
theorem rdo_31_1 (A : Option Addr) (n c B : Nat) (fs : List Fl) (cap left : Int) (down : Bool) (file : ByteArray)  (w : World) (hn : fs.length = n) (hs : Seen w B A (fcells fs)) (hB : B ≤ w.heap.size) (hsm : Small fs) (hnc : n ≤ c) (hf : file.size ≤ 9223372036854775807) (hc : check ⟨fs, cap, left, down⟩ = true) (hop : isOp ⟨1, file, { data := #[] }, 0⟩ = true) (hd : down = false) (hl : left ≠ 0) (fn fb : ByteArray) (s : Int) (hg : GetRes fs file fn fb s true) (hfb : fb.size ≤ 65536) (hlen : (put fs ⟨file, fb, (fb.size : Int)⟩).length ≤ 64) (hus : cap < (used (put fs ⟨file, fb, (fb.size : Int)⟩) : Int)) : Calls Tryz.prog 24 #[.agg #[.slice A n c, .int .i64 cap, .int .i64 left, .bool down], .agg #[.int .i8 1, .string file, .string { data := #[] }, .int .i64 0]] w (DiskRes [] 0 0 false 31 w) := by
  subst hd
  have _q1 := hfb
  clear _q1
  have y0 : (left == 0) = false := by rw [beq_eq_false_iff_ne]; exact hl
  have HG := Lib.hid hg
  have hgs : (fb : ByteArray).size ≤ 400000 := by omega
  have HSM := Lib.hid (put_small (f := ⟨file, fb, (fb.size : Int)⟩) (check_small hc) (Nat.le_trans (check_parts hc).1 (by decide)) hgs (by have := okName_le (isOp_ways hop).1; show file.size ≤ 100; omega))
  have hpw := (check_sorted hc).1
  have HPW := Lib.hid hpw
  have HLEN := Lib.hid hlen
  have HUS := Lib.hid hus
  clear hg hl hpw hlen hus
  have HOP := Lib.hid hop
  clear hop
  have HN := Lib.hid hn
  have HC : Hid (code (check ⟨fs, cap, left, false⟩) = 0) := by show _ = _; rw [hc]; rfl
  have _u1 := hnc
  have _u2 := hf
  clear hn hc _u1 _u2
  go_enter Tryz.func24, Tryz.ntmps24
  go_wp2_with fail
  obtain ⟨W0, hW0⟩ : ∃ W0, W0 = ((w.alloc (.cells #[.slice A n c, .int .i64 cap, .int .i64 left, .bool false] 24)).alloc (.cells #[.int .i8 1, .string file, .string { data := #[] }, .int .i64 0] 50)).alloc (.cells #[.slice none 0 0, .int .i64 0, .int .i64 0, .bool false] 24) := ⟨_, rfl⟩
  have h0 : V3 24 50 24 #[.slice A n c, .int .i64 cap, .int .i64 left, .bool false] #[.int .i8 1, .string file, .string { data := #[] }, .int .i64 0] #[.slice none 0 0, .int .i64 0, .int .i64 0, .bool false] B A fs w W0 := by rw [hW0]; exact V3.start hs hB
  rw [← hW0]
  clear hW0
  refine (ref_check_any A n c B fs cap left false 0 _ HN.out HC.out h0.s (Nat.le_trans hB h0.b.size) hsm).mono ?_
  rintro e W1 ⟨rfl, hx⟩
  have h1 := h0.next hB hx
  clear hx h0
  obtain ⟨d0, d1, d2, d3, f1⟩ := h1.p.cells4
  obtain ⟨g0, g1, g2, g3, f2⟩ := h1.q.cells4
  obtain ⟨e0, e1, e2, e3, f3⟩ := h1.r.cells4
  have l1 := h1.p.lt
  have l2 := h1.q.lt
  have l3 := h1.r.lt
  go_wp2_with fail
  refine (ref_may_any 1 file { data := #[] } 0 true _ hf HOP.out).mono ?_
  rintro e W2 ⟨rfl, hx⟩
  have h2 := h1.next hB hx
  clear hx h1 d0 d1 d2 d3 g0 g1 g2 g3 e0 e1 e2 e3 f1 f2 f3 l1 l2 l3
  obtain ⟨d0, d1, d2, d3, f1⟩ := h2.p.cells4
  obtain ⟨g0, g1, g2, g3, f2⟩ := h2.q.cells4
  obtain ⟨e0, e1, e2, e3, f3⟩ := h2.r.cells4
  have l1 := h2.p.lt
  have l2 := h2.q.lt
  have l3 := h2.r.lt
  go_wp2_with fail
  refine (ref_get_any A n c B fs cap left false file fn fb s true _ HG.out HN.out h2.s (Nat.le_trans hB h2.b.size) (by have := HN.out; have := hsm.1; omega)).mono ?_
  rintro e W3 ⟨rfl, hx⟩
  have h3 := h2.next hB hx
  clear hx h2 d0 d1 d2 d3 g0 g1 g2 g3 e0 e1 e2 e3 f1 f2 f3 l1 l2 l3
  obtain ⟨d0, d1, d2, d3, f1⟩ := h3.p.cells4
  obtain ⟨g0, g1, g2, g3, f2⟩ := h3.q.cells4
  obtain ⟨e0, e1, e2, e3, f3⟩ := h3.r.cells4
  have l1 := h3.p.lt
  have l2 := h3.q.lt
  have l3 := h3.r.lt
  go_upto_region 9 with fail
  obtain ⟨W5, hW5⟩ : ∃ W5, W5 = W3.alloc (.cells #[.string fn, .string fb, .int .i64 s] 48) := ⟨_, rfl⟩
  obtain ⟨g6, hg6⟩ : ∃ g6, g6 = W3.heap.size := ⟨_, rfl⟩
  have h5 := h3.next hB (bel1 W3 #[.string fn, .string fb, .int .i64 s] 48)
  rw [← hW5] at h5
  have u5 : Var W5 g6 48 #[.string fn, .string fb, .int .i64 s] := by rw [hW5, hg6]; exact new1 W3 _ _
  have hg6z : w.heap.size + 3 ≤ g6 := by rw [hg6]; exact h3.z
  rw [← hW5, ← hg6]
  clear hW5 hg6 h3 d0 d1 d2 d3 g0 g1 g2 g3 e0 e1 e2 e3 f1 f2 f3 l1 l2 l3
  obtain ⟨d0, d1, d2, d3, f1⟩ := h5.p.cells4
  obtain ⟨g0, g1, g2, g3, f2⟩ := h5.q.cells4
  obtain ⟨e0, e1, e2, e3, f3⟩ := h5.r.cells4
  have l1 := h5.p.lt
  have l2 := h5.q.lt
  have l3 := h5.r.lt
  obtain ⟨i0, i1, i2, f4⟩ := u5.cells3
  have l4 := u5.lt
  obtain ⟨W6, hW6⟩ : ∃ W6, W6 = ((W5.setCell ⟨g6, 0, none⟩ (.string file)).setCell ⟨g6, 2, none⟩ (.int .i64 (fb.size : Int))) := ⟨_, rfl⟩
  have h6 := ((h5.set hB 0 (.string file) hg6z).set hB 2 (.int .i64 (fb.size : Int)) hg6z)
  have u6 : Var W6 g6 48 #[.string file, .string fb, .int .i64 (fb.size : Int)] := by rw [hW6]; simpa using ((u5.set 0 (.string file)).set 2 (.int .i64 (fb.size : Int)))
  rw [← hW6] at h6
  have z6 : W6.heap.size = W5.heap.size := by rw [hW6]; simp
  obtain ⟨g8, hg8⟩ : ∃ g8, g8 = W5.heap.size := ⟨_, rfl⟩
  obtain ⟨W7, hW7⟩ : ∃ W7, W7 = W6.alloc (.cells #[.slice A n c, .int .i64 cap, .int .i64 left, .bool false] 24) := ⟨_, rfl⟩
  have h7 := h6.next hB (bel1 W6 #[.slice A n c, .int .i64 cap, .int .i64 left, .bool false] 24)
  rw [← hW7] at h7
  have o7 : Var W7 g8 24 #[.slice A n c, .int .i64 cap, .int .i64 left, .bool false] := by
    have h := new1 W6 #[.slice A n c, .int .i64 cap, .int .i64 left, .bool false] 24
    rw [z6, ← hg8, ← hW7] at h
    exact h
  have hg8z : w.heap.size + 3 ≤ g8 := by rw [hg8]; exact h5.z
  go_wp2_with fail
  rw [← hW6, ← hg8, ← hW7]
  clear hW6 hW7 hg8 h6 z6 u6 h5 u5 d0 d1 d2 d3 g0 g1 g2 g3 e0 e1 e2 e3 f1 f2 f3 l1 l2 l3 i0 i1 i2 f4 l4
  refine (ref_with_any A n c B fs file fb (fb.size : Int) _ HN.out h7.s (Nat.le_trans hB h7.b.size) (by have := HN.out; have := hsm.1; omega) (Nat.le_trans hgs (by decide)) HPW.out).mono ?_
  rintro e W8 ⟨A8, m8, c8, rfl, hl8, hs8, hm8, hx⟩
  have HL8 := Lib.hid hl8
  have h8 := h7.next hB hx
  have o8 := o7.below hx o7.lt
  clear hl8 hx h7 o7
  have hs9 : Seen (W8.setCell ⟨g8, 0, none⟩ (.slice A8 m8 c8)) W8.heap.size A8 (fcells (put fs ⟨file, fb, (fb.size : Int)⟩)) := hs8.off (seen_apart hs8 o8 disk_noText)
  have h9 := h8.set hB 0 (.slice A8 m8 c8) hg8z
  have o9 : Var (W8.setCell ⟨g8, 0, none⟩ (.slice A8 m8 c8)) g8 24 #[.slice A8 m8 c8, .int .i64 cap, .int .i64 left, .bool false] := by simpa using o8.set 0 (.slice A8 m8 c8)
  obtain ⟨d0, d1, d2, d3, f1⟩ := h8.p.cells4
  obtain ⟨g0, g1, g2, g3, f2⟩ := h8.q.cells4
  obtain ⟨e0, e1, e2, e3, f3⟩ := h8.r.cells4
  have l1 := h8.p.lt
  have l2 := h8.q.lt
  have l3 := h8.r.lt
  obtain ⟨i0, i1, i2, i3, f4⟩ := o8.cells4
  have l4 := o8.lt
  have hm64 : m8 ≤ 64 := by rw [← HL8.out]; exact HLEN.out
  have t1 : decide ((64 : Int) < (m8 : Int)) = false := bool_dec _ (by omega)
  go_wp2_with fail
  obtain ⟨W9, hW9⟩ : ∃ W9, W9 = W8.setCell ⟨g8, 0, none⟩ (.slice A8 m8 c8) := ⟨_, rfl⟩
  rw [← hW9] at h9 o9 hs9 ⊢
  have hz9 : W8.heap.size ≤ W9.heap.size := by rw [hW9]; simp
  clear hW9 h8 o8 d0 d1 d2 d3 g0 g1 g2 g3 e0 e1 e2 e3 f1 f2 f3 l1 l2 l3 i0 i1 i2 i3 f4 l4 hs8 t1
  obtain ⟨u, hu⟩ : ∃ u, used (put fs ⟨file, fb, (fb.size : Int)⟩) = u := ⟨_, rfl⟩
  have HU := Lib.hid hu
  have hx0 := fun (x : After W9) => (Var.cells4 (o9.below x.below o9.lt)).1
  have hx1 := fun (x : After W9) => (Var.cells4 (o9.below x.below o9.lt)).2.1
  have hx2 := fun (x : After W9) => (Var.cells4 (o9.below x.below o9.lt)).2.2.1
  have hx3 := fun (x : After W9) => (Var.cells4 (o9.below x.below o9.lt)).2.2.2.1
  have t5 : decide (cap < (u : Int)) = true := decide_eq_true (by have := HUS.out; rw [hu] at this; exact this)
  clear hu
  refine wp_region_after (by kernel_rfl) (by kernel_rfl) ?_
  repeat (go_big_quiet_step ((go_at_call 41; exact Calls.after (ref_used_any A8 m8 c8 W8.heap.size (put fs ⟨file, fb, (fb.size : Int)⟩) cap left false u _ HL8.out HU.out (hs9.below ((After.below _).mono hz9)) (Nat.le_trans hz9 (After.below _).size) HSM.out))))
  refine wpQuiet_nil ?_
  rintro _ ⟨x, rfl⟩
  obtain ⟨Wa, hWa⟩ : ∃ Wa, Wa = x.val := ⟨_, rfl⟩
  have ha := h9.next hB x.below
  have oa := o9.below x.below o9.lt
  have hsa := (hs9.below (x.below.mono hz9)).up (Nat.le_trans hz9 x.below.size)
  rw [← hWa] at ha oa hsa ⊢
  clear hWa hx0 hx1 hx2 hx3 h9 o9 hs9 x
  obtain ⟨d0, d1, d2, d3, f1⟩ := ha.p.cells4
  obtain ⟨g0, g1, g2, g3, f2⟩ := ha.q.cells4
  obtain ⟨e0, e1, e2, e3, f3⟩ := ha.r.cells4
  have l1 := ha.p.lt
  have l2 := ha.q.lt
  have l3 := ha.r.lt
  obtain ⟨i0, i1, i2, i3, f4⟩ := oa.cells4
  have l4 := oa.lt
  go_wp2
  refine bodyPost_ret (v := .tuple #[.agg #[.slice none 0 0, .int .i64 0, .int .i64 0, .bool false], .int .i64 31]) (by simp [results, Tryz.results24, go_sem, e0, e1, e2, e3]) rfl (disk_out rfl (Seen.nil _ _ _) (Nat.le_refl _) ha.r disk_noText (by omega) ha.b)
set_option maxRecDepth 100000 in
set_option maxHeartbeats 2000000 in
theorem rdo_31_2t (A : Option Addr) (n c B : Nat) (fs : List Fl) (cap left : Int) (down : Bool) (file b : ByteArray)  (w : World) (hn : fs.length = n) (hs : Seen w B A (fcells fs)) (hB : B ≤ w.heap.size) (hsm : Small fs) (hnc : n ≤ c) (hf : file.size ≤ 9223372036854775807) (hc : check ⟨fs, cap, left, down⟩ = true) (hop : isOp ⟨2, file, b, 0⟩ = true) (hd : down = false) (hl : left ≠ 0) (fn fb : ByteArray) (s : Int) (hg : GetRes fs file fn fb s true) (hfb : fb.size ≤ 65536) (hb0 : 0 < b.size) (hbb : b.size ≤ 300000) (hlen : (put fs ⟨file, b, (b.size : Int)⟩).length ≤ 64) (hus : cap < (used (put fs ⟨file, b, (b.size : Int)⟩) : Int)) : Calls Tryz.prog 24 #[.agg #[.slice A n c, .int .i64 cap, .int .i64 left, .bool down], .agg #[.int .i8 2, .string file, .string b, .int .i64 0]] w (DiskRes [] 0 0 false 31 w) := by
  subst hd
  have _q1 := hfb
  clear _q1
  have _q2 := hb0
  have _q3 := hbb
  clear _q2 _q3
  have y0 : (left == 0) = false := by rw [beq_eq_false_iff_ne]; exact hl
  have HG := Lib.hid hg
  have hgs : (b : ByteArray).size ≤ 400000 := by omega
  have HSM := Lib.hid (put_small (f := ⟨file, b, (b.size : Int)⟩) (check_small hc) (Nat.le_trans (check_parts hc).1 (by decide)) hgs (by have := okName_le (isOp_ways hop).1; show file.size ≤ 100; omega))
  have hpw := (check_sorted hc).1
  have HPW := Lib.hid hpw
  have HLEN := Lib.hid hlen
  have HUS := Lib.hid hus
  clear hg hl hpw hlen hus
  have HOP := Lib.hid hop
  clear hop
  have HN := Lib.hid hn
  have HC : Hid (code (check ⟨fs, cap, left, false⟩) = 0) := by show _ = _; rw [hc]; rfl
  have _u1 := hnc
  have _u2 := hf
  clear hn hc _u1 _u2
  go_enter Tryz.func24, Tryz.ntmps24
  go_wp2_with fail
  obtain ⟨W0, hW0⟩ : ∃ W0, W0 = ((w.alloc (.cells #[.slice A n c, .int .i64 cap, .int .i64 left, .bool false] 24)).alloc (.cells #[.int .i8 2, .string file, .string b, .int .i64 0] 50)).alloc (.cells #[.slice none 0 0, .int .i64 0, .int .i64 0, .bool false] 24) := ⟨_, rfl⟩
  have h0 : V3 24 50 24 #[.slice A n c, .int .i64 cap, .int .i64 left, .bool false] #[.int .i8 2, .string file, .string b, .int .i64 0] #[.slice none 0 0, .int .i64 0, .int .i64 0, .bool false] B A fs w W0 := by rw [hW0]; exact V3.start hs hB
  rw [← hW0]
  clear hW0
  refine (ref_check_any A n c B fs cap left false 0 _ HN.out HC.out h0.s (Nat.le_trans hB h0.b.size) hsm).mono ?_
  rintro e W1 ⟨rfl, hx⟩
  have h1 := h0.next hB hx
  clear hx h0
  obtain ⟨d0, d1, d2, d3, f1⟩ := h1.p.cells4
  obtain ⟨g0, g1, g2, g3, f2⟩ := h1.q.cells4
  obtain ⟨e0, e1, e2, e3, f3⟩ := h1.r.cells4
  have l1 := h1.p.lt
  have l2 := h1.q.lt
  have l3 := h1.r.lt
  go_wp2_with fail
  refine (ref_may_any 2 file b 0 true _ hf HOP.out).mono ?_
  rintro e W2 ⟨rfl, hx⟩
  have h2 := h1.next hB hx
  clear hx h1 d0 d1 d2 d3 g0 g1 g2 g3 e0 e1 e2 e3 f1 f2 f3 l1 l2 l3
  obtain ⟨d0, d1, d2, d3, f1⟩ := h2.p.cells4
  obtain ⟨g0, g1, g2, g3, f2⟩ := h2.q.cells4
  obtain ⟨e0, e1, e2, e3, f3⟩ := h2.r.cells4
  have l1 := h2.p.lt
  have l2 := h2.q.lt
  have l3 := h2.r.lt
  go_wp2_with fail
  refine (ref_get_any A n c B fs cap left false file fn fb s true _ HG.out HN.out h2.s (Nat.le_trans hB h2.b.size) (by have := HN.out; have := hsm.1; omega)).mono ?_
  rintro e W3 ⟨rfl, hx⟩
  have h3 := h2.next hB hx
  clear hx h2 d0 d1 d2 d3 g0 g1 g2 g3 e0 e1 e2 e3 f1 f2 f3 l1 l2 l3
  obtain ⟨d0, d1, d2, d3, f1⟩ := h3.p.cells4
  obtain ⟨g0, g1, g2, g3, f2⟩ := h3.q.cells4
  obtain ⟨e0, e1, e2, e3, f3⟩ := h3.r.cells4
  have l1 := h3.p.lt
  have l2 := h3.q.lt
  have l3 := h3.r.lt
  go_upto_region 9 with fail
  obtain ⟨W5, hW5⟩ : ∃ W5, W5 = W3.alloc (.cells #[.string fn, .string fb, .int .i64 s] 48) := ⟨_, rfl⟩
  obtain ⟨g6, hg6⟩ : ∃ g6, g6 = W3.heap.size := ⟨_, rfl⟩
  have h5 := h3.next hB (bel1 W3 #[.string fn, .string fb, .int .i64 s] 48)
  rw [← hW5] at h5
  have u5 : Var W5 g6 48 #[.string fn, .string fb, .int .i64 s] := by rw [hW5, hg6]; exact new1 W3 _ _
  have hg6z : w.heap.size + 3 ≤ g6 := by rw [hg6]; exact h3.z
  rw [← hW5, ← hg6]
  clear hW5 hg6 h3 d0 d1 d2 d3 g0 g1 g2 g3 e0 e1 e2 e3 f1 f2 f3 l1 l2 l3
  obtain ⟨d0, d1, d2, d3, f1⟩ := h5.p.cells4
  obtain ⟨g0, g1, g2, g3, f2⟩ := h5.q.cells4
  obtain ⟨e0, e1, e2, e3, f3⟩ := h5.r.cells4
  have l1 := h5.p.lt
  have l2 := h5.q.lt
  have l3 := h5.r.lt
  obtain ⟨i0, i1, i2, f4⟩ := u5.cells3
  have l4 := u5.lt
  obtain ⟨W6, hW6⟩ : ∃ W6, W6 = (((W5.setCell ⟨g6, 0, none⟩ (.string file)).setCell ⟨g6, 1, none⟩ (.string b)).setCell ⟨g6, 2, none⟩ (.int .i64 (b.size : Int))) := ⟨_, rfl⟩
  have h6 := (((h5.set hB 0 (.string file) hg6z).set hB 1 (.string b) hg6z).set hB 2 (.int .i64 (b.size : Int)) hg6z)
  have u6 : Var W6 g6 48 #[.string file, .string b, .int .i64 (b.size : Int)] := by rw [hW6]; simpa using (((u5.set 0 (.string file)).set 1 (.string b)).set 2 (.int .i64 (b.size : Int)))
  rw [← hW6] at h6
  have z6 : W6.heap.size = W5.heap.size := by rw [hW6]; simp
  obtain ⟨g8, hg8⟩ : ∃ g8, g8 = W5.heap.size := ⟨_, rfl⟩
  obtain ⟨W7, hW7⟩ : ∃ W7, W7 = W6.alloc (.cells #[.slice A n c, .int .i64 cap, .int .i64 left, .bool false] 24) := ⟨_, rfl⟩
  have h7 := h6.next hB (bel1 W6 #[.slice A n c, .int .i64 cap, .int .i64 left, .bool false] 24)
  rw [← hW7] at h7
  have o7 : Var W7 g8 24 #[.slice A n c, .int .i64 cap, .int .i64 left, .bool false] := by
    have h := new1 W6 #[.slice A n c, .int .i64 cap, .int .i64 left, .bool false] 24
    rw [z6, ← hg8, ← hW7] at h
    exact h
  have hg8z : w.heap.size + 3 ≤ g8 := by rw [hg8]; exact h5.z
  go_wp2_with fail
  rw [← hW6, ← hg8, ← hW7]
  clear hW6 hW7 hg8 h6 z6 u6 h5 u5 d0 d1 d2 d3 g0 g1 g2 g3 e0 e1 e2 e3 f1 f2 f3 l1 l2 l3 i0 i1 i2 f4 l4
  refine (ref_with_any A n c B fs file b (b.size : Int) _ HN.out h7.s (Nat.le_trans hB h7.b.size) (by have := HN.out; have := hsm.1; omega) (Nat.le_trans hgs (by decide)) HPW.out).mono ?_
  rintro e W8 ⟨A8, m8, c8, rfl, hl8, hs8, hm8, hx⟩
  have HL8 := Lib.hid hl8
  have h8 := h7.next hB hx
  have o8 := o7.below hx o7.lt
  clear hl8 hx h7 o7
  have hs9 : Seen (W8.setCell ⟨g8, 0, none⟩ (.slice A8 m8 c8)) W8.heap.size A8 (fcells (put fs ⟨file, b, (b.size : Int)⟩)) := hs8.off (seen_apart hs8 o8 disk_noText)
  have h9 := h8.set hB 0 (.slice A8 m8 c8) hg8z
  have o9 : Var (W8.setCell ⟨g8, 0, none⟩ (.slice A8 m8 c8)) g8 24 #[.slice A8 m8 c8, .int .i64 cap, .int .i64 left, .bool false] := by simpa using o8.set 0 (.slice A8 m8 c8)
  obtain ⟨d0, d1, d2, d3, f1⟩ := h8.p.cells4
  obtain ⟨g0, g1, g2, g3, f2⟩ := h8.q.cells4
  obtain ⟨e0, e1, e2, e3, f3⟩ := h8.r.cells4
  have l1 := h8.p.lt
  have l2 := h8.q.lt
  have l3 := h8.r.lt
  obtain ⟨i0, i1, i2, i3, f4⟩ := o8.cells4
  have l4 := o8.lt
  have hm64 : m8 ≤ 64 := by rw [← HL8.out]; exact HLEN.out
  have t1 : decide ((64 : Int) < (m8 : Int)) = false := bool_dec _ (by omega)
  go_wp2_with fail
  obtain ⟨W9, hW9⟩ : ∃ W9, W9 = W8.setCell ⟨g8, 0, none⟩ (.slice A8 m8 c8) := ⟨_, rfl⟩
  rw [← hW9] at h9 o9 hs9 ⊢
  have hz9 : W8.heap.size ≤ W9.heap.size := by rw [hW9]; simp
  clear hW9 h8 o8 d0 d1 d2 d3 g0 g1 g2 g3 e0 e1 e2 e3 f1 f2 f3 l1 l2 l3 i0 i1 i2 i3 f4 l4 hs8 t1
  obtain ⟨u, hu⟩ : ∃ u, used (put fs ⟨file, b, (b.size : Int)⟩) = u := ⟨_, rfl⟩
  have HU := Lib.hid hu
  have hx0 := fun (x : After W9) => (Var.cells4 (o9.below x.below o9.lt)).1
  have hx1 := fun (x : After W9) => (Var.cells4 (o9.below x.below o9.lt)).2.1
  have hx2 := fun (x : After W9) => (Var.cells4 (o9.below x.below o9.lt)).2.2.1
  have hx3 := fun (x : After W9) => (Var.cells4 (o9.below x.below o9.lt)).2.2.2.1
  have t5 : decide (cap < (u : Int)) = true := decide_eq_true (by have := HUS.out; rw [hu] at this; exact this)
  clear hu
  refine wp_region_after (by kernel_rfl) (by kernel_rfl) ?_
  repeat (go_big_quiet_step ((go_at_call 41; exact Calls.after (ref_used_any A8 m8 c8 W8.heap.size (put fs ⟨file, b, (b.size : Int)⟩) cap left false u _ HL8.out HU.out (hs9.below ((After.below _).mono hz9)) (Nat.le_trans hz9 (After.below _).size) HSM.out))))
  refine wpQuiet_nil ?_
  rintro _ ⟨x, rfl⟩
  obtain ⟨Wa, hWa⟩ : ∃ Wa, Wa = x.val := ⟨_, rfl⟩
  have ha := h9.next hB x.below
  have oa := o9.below x.below o9.lt
  have hsa := (hs9.below (x.below.mono hz9)).up (Nat.le_trans hz9 x.below.size)
  rw [← hWa] at ha oa hsa ⊢
  clear hWa hx0 hx1 hx2 hx3 h9 o9 hs9 x
  obtain ⟨d0, d1, d2, d3, f1⟩ := ha.p.cells4
  obtain ⟨g0, g1, g2, g3, f2⟩ := ha.q.cells4
  obtain ⟨e0, e1, e2, e3, f3⟩ := ha.r.cells4
  have l1 := ha.p.lt
  have l2 := ha.q.lt
  have l3 := ha.r.lt
  obtain ⟨i0, i1, i2, i3, f4⟩ := oa.cells4
  have l4 := oa.lt
  go_wp2
  refine bodyPost_ret (v := .tuple #[.agg #[.slice none 0 0, .int .i64 0, .int .i64 0, .bool false], .int .i64 31]) (by simp [results, Tryz.results24, go_sem, e0, e1, e2, e3]) rfl (disk_out rfl (Seen.nil _ _ _) (Nat.le_refl _) ha.r disk_noText (by omega) ha.b)
set_option maxRecDepth 100000 in
set_option maxHeartbeats 2000000 in
theorem rdo_31_2f (A : Option Addr) (n c B : Nat) (fs : List Fl) (cap left : Int) (down : Bool) (file b : ByteArray)  (w : World) (hn : fs.length = n) (hs : Seen w B A (fcells fs)) (hB : B ≤ w.heap.size) (hsm : Small fs) (hnc : n ≤ c) (hf : file.size ≤ 9223372036854775807) (hc : check ⟨fs, cap, left, down⟩ = true) (hop : isOp ⟨2, file, b, 0⟩ = true) (hd : down = false) (hl : left ≠ 0) (fn fb : ByteArray) (s : Int) (hg : GetRes fs file fn fb s false) (hfb : fb.size ≤ 65536) (hb0 : 0 < b.size) (hbb : b.size ≤ 300000) (hlen : (put fs ⟨file, b, (b.size : Int)⟩).length ≤ 64) (hus : cap < (used (put fs ⟨file, b, (b.size : Int)⟩) : Int)) : Calls Tryz.prog 24 #[.agg #[.slice A n c, .int .i64 cap, .int .i64 left, .bool down], .agg #[.int .i8 2, .string file, .string b, .int .i64 0]] w (DiskRes [] 0 0 false 31 w) := by
  subst hd
  have _q1 := hfb
  clear _q1
  have _q2 := hb0
  have _q3 := hbb
  clear _q2 _q3
  have y0 : (left == 0) = false := by rw [beq_eq_false_iff_ne]; exact hl
  have HG := Lib.hid hg
  have hgs : (b : ByteArray).size ≤ 400000 := by omega
  have HSM := Lib.hid (put_small (f := ⟨file, b, (b.size : Int)⟩) (check_small hc) (Nat.le_trans (check_parts hc).1 (by decide)) hgs (by have := okName_le (isOp_ways hop).1; show file.size ≤ 100; omega))
  have hpw := (check_sorted hc).1
  have HPW := Lib.hid hpw
  have HLEN := Lib.hid hlen
  have HUS := Lib.hid hus
  clear hg hl hpw hlen hus
  have HOP := Lib.hid hop
  clear hop
  have HN := Lib.hid hn
  have HC : Hid (code (check ⟨fs, cap, left, false⟩) = 0) := by show _ = _; rw [hc]; rfl
  have _u1 := hnc
  have _u2 := hf
  clear hn hc _u1 _u2
  go_enter Tryz.func24, Tryz.ntmps24
  go_wp2_with fail
  obtain ⟨W0, hW0⟩ : ∃ W0, W0 = ((w.alloc (.cells #[.slice A n c, .int .i64 cap, .int .i64 left, .bool false] 24)).alloc (.cells #[.int .i8 2, .string file, .string b, .int .i64 0] 50)).alloc (.cells #[.slice none 0 0, .int .i64 0, .int .i64 0, .bool false] 24) := ⟨_, rfl⟩
  have h0 : V3 24 50 24 #[.slice A n c, .int .i64 cap, .int .i64 left, .bool false] #[.int .i8 2, .string file, .string b, .int .i64 0] #[.slice none 0 0, .int .i64 0, .int .i64 0, .bool false] B A fs w W0 := by rw [hW0]; exact V3.start hs hB
  rw [← hW0]
  clear hW0
  refine (ref_check_any A n c B fs cap left false 0 _ HN.out HC.out h0.s (Nat.le_trans hB h0.b.size) hsm).mono ?_
  rintro e W1 ⟨rfl, hx⟩
  have h1 := h0.next hB hx
  clear hx h0
  obtain ⟨d0, d1, d2, d3, f1⟩ := h1.p.cells4
  obtain ⟨g0, g1, g2, g3, f2⟩ := h1.q.cells4
  obtain ⟨e0, e1, e2, e3, f3⟩ := h1.r.cells4
  have l1 := h1.p.lt
  have l2 := h1.q.lt
  have l3 := h1.r.lt
  go_wp2_with fail
  refine (ref_may_any 2 file b 0 true _ hf HOP.out).mono ?_
  rintro e W2 ⟨rfl, hx⟩
  have h2 := h1.next hB hx
  clear hx h1 d0 d1 d2 d3 g0 g1 g2 g3 e0 e1 e2 e3 f1 f2 f3 l1 l2 l3
  obtain ⟨d0, d1, d2, d3, f1⟩ := h2.p.cells4
  obtain ⟨g0, g1, g2, g3, f2⟩ := h2.q.cells4
  obtain ⟨e0, e1, e2, e3, f3⟩ := h2.r.cells4
  have l1 := h2.p.lt
  have l2 := h2.q.lt
  have l3 := h2.r.lt
  go_wp2_with fail
  refine (ref_get_any A n c B fs cap left false file fn fb s false _ HG.out HN.out h2.s (Nat.le_trans hB h2.b.size) (by have := HN.out; have := hsm.1; omega)).mono ?_
  rintro e W3 ⟨rfl, hx⟩
  have h3 := h2.next hB hx
  clear hx h2 d0 d1 d2 d3 g0 g1 g2 g3 e0 e1 e2 e3 f1 f2 f3 l1 l2 l3
  obtain ⟨d0, d1, d2, d3, f1⟩ := h3.p.cells4
  obtain ⟨g0, g1, g2, g3, f2⟩ := h3.q.cells4
  obtain ⟨e0, e1, e2, e3, f3⟩ := h3.r.cells4
  have l1 := h3.p.lt
  have l2 := h3.q.lt
  have l3 := h3.r.lt
  go_upto_region 9 with fail
  obtain ⟨W5, hW5⟩ : ∃ W5, W5 = W3.alloc (.cells #[.string fn, .string fb, .int .i64 s] 48) := ⟨_, rfl⟩
  obtain ⟨g6, hg6⟩ : ∃ g6, g6 = W3.heap.size := ⟨_, rfl⟩
  have h5 := h3.next hB (bel1 W3 #[.string fn, .string fb, .int .i64 s] 48)
  rw [← hW5] at h5
  have u5 : Var W5 g6 48 #[.string fn, .string fb, .int .i64 s] := by rw [hW5, hg6]; exact new1 W3 _ _
  have hg6z : w.heap.size + 3 ≤ g6 := by rw [hg6]; exact h3.z
  rw [← hW5, ← hg6]
  clear hW5 hg6 h3 d0 d1 d2 d3 g0 g1 g2 g3 e0 e1 e2 e3 f1 f2 f3 l1 l2 l3
  obtain ⟨d0, d1, d2, d3, f1⟩ := h5.p.cells4
  obtain ⟨g0, g1, g2, g3, f2⟩ := h5.q.cells4
  obtain ⟨e0, e1, e2, e3, f3⟩ := h5.r.cells4
  have l1 := h5.p.lt
  have l2 := h5.q.lt
  have l3 := h5.r.lt
  obtain ⟨i0, i1, i2, f4⟩ := u5.cells3
  have l4 := u5.lt
  obtain ⟨W6, hW6⟩ : ∃ W6, W6 = (((W5.setCell ⟨g6, 0, none⟩ (.string file)).setCell ⟨g6, 1, none⟩ (.string b)).setCell ⟨g6, 2, none⟩ (.int .i64 (b.size : Int))) := ⟨_, rfl⟩
  have h6 := (((h5.set hB 0 (.string file) hg6z).set hB 1 (.string b) hg6z).set hB 2 (.int .i64 (b.size : Int)) hg6z)
  have u6 : Var W6 g6 48 #[.string file, .string b, .int .i64 (b.size : Int)] := by rw [hW6]; simpa using (((u5.set 0 (.string file)).set 1 (.string b)).set 2 (.int .i64 (b.size : Int)))
  rw [← hW6] at h6
  have z6 : W6.heap.size = W5.heap.size := by rw [hW6]; simp
  obtain ⟨g8, hg8⟩ : ∃ g8, g8 = W5.heap.size := ⟨_, rfl⟩
  obtain ⟨W7, hW7⟩ : ∃ W7, W7 = W6.alloc (.cells #[.slice A n c, .int .i64 cap, .int .i64 left, .bool false] 24) := ⟨_, rfl⟩
  have h7 := h6.next hB (bel1 W6 #[.slice A n c, .int .i64 cap, .int .i64 left, .bool false] 24)
  rw [← hW7] at h7
  have o7 : Var W7 g8 24 #[.slice A n c, .int .i64 cap, .int .i64 left, .bool false] := by
    have h := new1 W6 #[.slice A n c, .int .i64 cap, .int .i64 left, .bool false] 24
    rw [z6, ← hg8, ← hW7] at h
    exact h
  have hg8z : w.heap.size + 3 ≤ g8 := by rw [hg8]; exact h5.z
  go_wp2_with fail
  rw [← hW6, ← hg8, ← hW7]
  clear hW6 hW7 hg8 h6 z6 u6 h5 u5 d0 d1 d2 d3 g0 g1 g2 g3 e0 e1 e2 e3 f1 f2 f3 l1 l2 l3 i0 i1 i2 f4 l4
  refine (ref_with_any A n c B fs file b (b.size : Int) _ HN.out h7.s (Nat.le_trans hB h7.b.size) (by have := HN.out; have := hsm.1; omega) (Nat.le_trans hgs (by decide)) HPW.out).mono ?_
  rintro e W8 ⟨A8, m8, c8, rfl, hl8, hs8, hm8, hx⟩
  have HL8 := Lib.hid hl8
  have h8 := h7.next hB hx
  have o8 := o7.below hx o7.lt
  clear hl8 hx h7 o7
  have hs9 : Seen (W8.setCell ⟨g8, 0, none⟩ (.slice A8 m8 c8)) W8.heap.size A8 (fcells (put fs ⟨file, b, (b.size : Int)⟩)) := hs8.off (seen_apart hs8 o8 disk_noText)
  have h9 := h8.set hB 0 (.slice A8 m8 c8) hg8z
  have o9 : Var (W8.setCell ⟨g8, 0, none⟩ (.slice A8 m8 c8)) g8 24 #[.slice A8 m8 c8, .int .i64 cap, .int .i64 left, .bool false] := by simpa using o8.set 0 (.slice A8 m8 c8)
  obtain ⟨d0, d1, d2, d3, f1⟩ := h8.p.cells4
  obtain ⟨g0, g1, g2, g3, f2⟩ := h8.q.cells4
  obtain ⟨e0, e1, e2, e3, f3⟩ := h8.r.cells4
  have l1 := h8.p.lt
  have l2 := h8.q.lt
  have l3 := h8.r.lt
  obtain ⟨i0, i1, i2, i3, f4⟩ := o8.cells4
  have l4 := o8.lt
  have hm64 : m8 ≤ 64 := by rw [← HL8.out]; exact HLEN.out
  have t1 : decide ((64 : Int) < (m8 : Int)) = false := bool_dec _ (by omega)
  go_wp2_with fail
  obtain ⟨W9, hW9⟩ : ∃ W9, W9 = W8.setCell ⟨g8, 0, none⟩ (.slice A8 m8 c8) := ⟨_, rfl⟩
  rw [← hW9] at h9 o9 hs9 ⊢
  have hz9 : W8.heap.size ≤ W9.heap.size := by rw [hW9]; simp
  clear hW9 h8 o8 d0 d1 d2 d3 g0 g1 g2 g3 e0 e1 e2 e3 f1 f2 f3 l1 l2 l3 i0 i1 i2 i3 f4 l4 hs8 t1
  obtain ⟨u, hu⟩ : ∃ u, used (put fs ⟨file, b, (b.size : Int)⟩) = u := ⟨_, rfl⟩
  have HU := Lib.hid hu
  have hx0 := fun (x : After W9) => (Var.cells4 (o9.below x.below o9.lt)).1
  have hx1 := fun (x : After W9) => (Var.cells4 (o9.below x.below o9.lt)).2.1
  have hx2 := fun (x : After W9) => (Var.cells4 (o9.below x.below o9.lt)).2.2.1
  have hx3 := fun (x : After W9) => (Var.cells4 (o9.below x.below o9.lt)).2.2.2.1
  have t5 : decide (cap < (u : Int)) = true := decide_eq_true (by have := HUS.out; rw [hu] at this; exact this)
  clear hu
  refine wp_region_after (by kernel_rfl) (by kernel_rfl) ?_
  repeat (go_big_quiet_step ((go_at_call 41; exact Calls.after (ref_used_any A8 m8 c8 W8.heap.size (put fs ⟨file, b, (b.size : Int)⟩) cap left false u _ HL8.out HU.out (hs9.below ((After.below _).mono hz9)) (Nat.le_trans hz9 (After.below _).size) HSM.out))))
  refine wpQuiet_nil ?_
  rintro _ ⟨x, rfl⟩
  obtain ⟨Wa, hWa⟩ : ∃ Wa, Wa = x.val := ⟨_, rfl⟩
  have ha := h9.next hB x.below
  have oa := o9.below x.below o9.lt
  have hsa := (hs9.below (x.below.mono hz9)).up (Nat.le_trans hz9 x.below.size)
  rw [← hWa] at ha oa hsa ⊢
  clear hWa hx0 hx1 hx2 hx3 h9 o9 hs9 x
  obtain ⟨d0, d1, d2, d3, f1⟩ := ha.p.cells4
  obtain ⟨g0, g1, g2, g3, f2⟩ := ha.q.cells4
  obtain ⟨e0, e1, e2, e3, f3⟩ := ha.r.cells4
  have l1 := ha.p.lt
  have l2 := ha.q.lt
  have l3 := ha.r.lt
  obtain ⟨i0, i1, i2, i3, f4⟩ := oa.cells4
  have l4 := oa.lt
  go_wp2
  refine bodyPost_ret (v := .tuple #[.agg #[.slice none 0 0, .int .i64 0, .int .i64 0, .bool false], .int .i64 31]) (by simp [results, Tryz.results24, go_sem, e0, e1, e2, e3]) rfl (disk_out rfl (Seen.nil _ _ _) (Nat.le_refl _) ha.r disk_noText (by omega) ha.b)
set_option maxRecDepth 100000 in
set_option maxHeartbeats 2000000 in
theorem rdo_31_3 (A : Option Addr) (n c B : Nat) (fs : List Fl) (cap left : Int) (down : Bool) (file : ByteArray) (j : Nat) (w : World) (hn : fs.length = n) (hs : Seen w B A (fcells fs)) (hB : B ≤ w.heap.size) (hsm : Small fs) (hnc : n ≤ c) (hf : file.size ≤ 9223372036854775807) (hc : check ⟨fs, cap, left, down⟩ = true) (hop : isOp ⟨3, file, { data := #[] }, (j : Int)⟩ = true) (hd : down = false) (hl : left ≠ 0) (fn fb : ByteArray) (s : Int) (hg : GetRes fs file fn fb s true) (hfb : fb.size ≤ 65536) (hj : j ≤ fb.size) (hlen : (put fs ⟨file, (fb.extract 0 j), (j : Int)⟩).length ≤ 64) (hus : cap < (used (put fs ⟨file, (fb.extract 0 j), (j : Int)⟩) : Int)) : Calls Tryz.prog 24 #[.agg #[.slice A n c, .int .i64 cap, .int .i64 left, .bool down], .agg #[.int .i8 3, .string file, .string { data := #[] }, .int .i64 (j : Int)]] w (DiskRes [] 0 0 false 31 w) := by
  subst hd
  have _q1 := hfb
  clear _q1
  have _q4 := hj
  clear _q4
  have y0 : (left == 0) = false := by rw [beq_eq_false_iff_ne]; exact hl
  have HG := Lib.hid hg
  have hgs : ((fb.extract 0 j) : ByteArray).size ≤ 400000 := by have := cut_size fb j; omega
  have HSM := Lib.hid (put_small (f := ⟨file, (fb.extract 0 j), (j : Int)⟩) (check_small hc) (Nat.le_trans (check_parts hc).1 (by decide)) hgs (by have := okName_le (isOp_ways hop).1; show file.size ≤ 100; omega))
  have hpw := (check_sorted hc).1
  have HPW := Lib.hid hpw
  have HLEN := Lib.hid hlen
  have HUS := Lib.hid hus
  clear hg hl hpw hlen hus
  have HOP := Lib.hid hop
  clear hop
  have HN := Lib.hid hn
  have HC : Hid (code (check ⟨fs, cap, left, false⟩) = 0) := by show _ = _; rw [hc]; rfl
  have _u1 := hnc
  have _u2 := hf
  clear hn hc _u1 _u2
  go_enter Tryz.func24, Tryz.ntmps24
  go_wp2_with fail
  obtain ⟨W0, hW0⟩ : ∃ W0, W0 = ((w.alloc (.cells #[.slice A n c, .int .i64 cap, .int .i64 left, .bool false] 24)).alloc (.cells #[.int .i8 3, .string file, .string { data := #[] }, .int .i64 (j : Int)] 50)).alloc (.cells #[.slice none 0 0, .int .i64 0, .int .i64 0, .bool false] 24) := ⟨_, rfl⟩
  have h0 : V3 24 50 24 #[.slice A n c, .int .i64 cap, .int .i64 left, .bool false] #[.int .i8 3, .string file, .string { data := #[] }, .int .i64 (j : Int)] #[.slice none 0 0, .int .i64 0, .int .i64 0, .bool false] B A fs w W0 := by rw [hW0]; exact V3.start hs hB
  rw [← hW0]
  clear hW0
  refine (ref_check_any A n c B fs cap left false 0 _ HN.out HC.out h0.s (Nat.le_trans hB h0.b.size) hsm).mono ?_
  rintro e W1 ⟨rfl, hx⟩
  have h1 := h0.next hB hx
  clear hx h0
  obtain ⟨d0, d1, d2, d3, f1⟩ := h1.p.cells4
  obtain ⟨g0, g1, g2, g3, f2⟩ := h1.q.cells4
  obtain ⟨e0, e1, e2, e3, f3⟩ := h1.r.cells4
  have l1 := h1.p.lt
  have l2 := h1.q.lt
  have l3 := h1.r.lt
  go_wp2_with fail
  refine (ref_may_any 3 file { data := #[] } (j : Int) true _ hf HOP.out).mono ?_
  rintro e W2 ⟨rfl, hx⟩
  have h2 := h1.next hB hx
  clear hx h1 d0 d1 d2 d3 g0 g1 g2 g3 e0 e1 e2 e3 f1 f2 f3 l1 l2 l3
  obtain ⟨d0, d1, d2, d3, f1⟩ := h2.p.cells4
  obtain ⟨g0, g1, g2, g3, f2⟩ := h2.q.cells4
  obtain ⟨e0, e1, e2, e3, f3⟩ := h2.r.cells4
  have l1 := h2.p.lt
  have l2 := h2.q.lt
  have l3 := h2.r.lt
  go_wp2_with fail
  refine (ref_get_any A n c B fs cap left false file fn fb s true _ HG.out HN.out h2.s (Nat.le_trans hB h2.b.size) (by have := HN.out; have := hsm.1; omega)).mono ?_
  rintro e W3 ⟨rfl, hx⟩
  have h3 := h2.next hB hx
  clear hx h2 d0 d1 d2 d3 g0 g1 g2 g3 e0 e1 e2 e3 f1 f2 f3 l1 l2 l3
  obtain ⟨d0, d1, d2, d3, f1⟩ := h3.p.cells4
  obtain ⟨g0, g1, g2, g3, f2⟩ := h3.q.cells4
  obtain ⟨e0, e1, e2, e3, f3⟩ := h3.r.cells4
  have l1 := h3.p.lt
  have l2 := h3.q.lt
  have l3 := h3.r.lt
  go_upto_region 9 with fail
  obtain ⟨W5, hW5⟩ : ∃ W5, W5 = W3.alloc (.cells #[.string fn, .string fb, .int .i64 s] 48) := ⟨_, rfl⟩
  obtain ⟨g6, hg6⟩ : ∃ g6, g6 = W3.heap.size := ⟨_, rfl⟩
  have h5 := h3.next hB (bel1 W3 #[.string fn, .string fb, .int .i64 s] 48)
  rw [← hW5] at h5
  have u5 : Var W5 g6 48 #[.string fn, .string fb, .int .i64 s] := by rw [hW5, hg6]; exact new1 W3 _ _
  have hg6z : w.heap.size + 3 ≤ g6 := by rw [hg6]; exact h3.z
  rw [← hW5, ← hg6]
  clear hW5 hg6 h3 d0 d1 d2 d3 g0 g1 g2 g3 e0 e1 e2 e3 f1 f2 f3 l1 l2 l3
  obtain ⟨d0, d1, d2, d3, f1⟩ := h5.p.cells4
  obtain ⟨g0, g1, g2, g3, f2⟩ := h5.q.cells4
  obtain ⟨e0, e1, e2, e3, f3⟩ := h5.r.cells4
  have l1 := h5.p.lt
  have l2 := h5.q.lt
  have l3 := h5.r.lt
  obtain ⟨i0, i1, i2, f4⟩ := u5.cells3
  have l4 := u5.lt
  obtain ⟨W6, hW6⟩ : ∃ W6, W6 = (((W5.setCell ⟨g6, 0, none⟩ (.string file)).setCell ⟨g6, 1, none⟩ (.string (fb.extract 0 j))).setCell ⟨g6, 2, none⟩ (.int .i64 (j : Int))) := ⟨_, rfl⟩
  have h6 := (((h5.set hB 0 (.string file) hg6z).set hB 1 (.string (fb.extract 0 j)) hg6z).set hB 2 (.int .i64 (j : Int)) hg6z)
  have u6 : Var W6 g6 48 #[.string file, .string (fb.extract 0 j), .int .i64 (j : Int)] := by rw [hW6]; simpa using (((u5.set 0 (.string file)).set 1 (.string (fb.extract 0 j))).set 2 (.int .i64 (j : Int)))
  rw [← hW6] at h6
  have z6 : W6.heap.size = W5.heap.size := by rw [hW6]; simp
  obtain ⟨g8, hg8⟩ : ∃ g8, g8 = W5.heap.size := ⟨_, rfl⟩
  obtain ⟨W7, hW7⟩ : ∃ W7, W7 = W6.alloc (.cells #[.slice A n c, .int .i64 cap, .int .i64 left, .bool false] 24) := ⟨_, rfl⟩
  have h7 := h6.next hB (bel1 W6 #[.slice A n c, .int .i64 cap, .int .i64 left, .bool false] 24)
  rw [← hW7] at h7
  have o7 : Var W7 g8 24 #[.slice A n c, .int .i64 cap, .int .i64 left, .bool false] := by
    have h := new1 W6 #[.slice A n c, .int .i64 cap, .int .i64 left, .bool false] 24
    rw [z6, ← hg8, ← hW7] at h
    exact h
  have hg8z : w.heap.size + 3 ≤ g8 := by rw [hg8]; exact h5.z
  go_wp2_with fail
  rw [← hW6, ← hg8, ← hW7]
  clear hW6 hW7 hg8 h6 z6 u6 h5 u5 d0 d1 d2 d3 g0 g1 g2 g3 e0 e1 e2 e3 f1 f2 f3 l1 l2 l3 i0 i1 i2 f4 l4
  refine (ref_with_any A n c B fs file (fb.extract 0 j) (j : Int) _ HN.out h7.s (Nat.le_trans hB h7.b.size) (by have := HN.out; have := hsm.1; omega) (Nat.le_trans hgs (by decide)) HPW.out).mono ?_
  rintro e W8 ⟨A8, m8, c8, rfl, hl8, hs8, hm8, hx⟩
  have HL8 := Lib.hid hl8
  have h8 := h7.next hB hx
  have o8 := o7.below hx o7.lt
  clear hl8 hx h7 o7
  have hs9 : Seen (W8.setCell ⟨g8, 0, none⟩ (.slice A8 m8 c8)) W8.heap.size A8 (fcells (put fs ⟨file, (fb.extract 0 j), (j : Int)⟩)) := hs8.off (seen_apart hs8 o8 disk_noText)
  have h9 := h8.set hB 0 (.slice A8 m8 c8) hg8z
  have o9 : Var (W8.setCell ⟨g8, 0, none⟩ (.slice A8 m8 c8)) g8 24 #[.slice A8 m8 c8, .int .i64 cap, .int .i64 left, .bool false] := by simpa using o8.set 0 (.slice A8 m8 c8)
  obtain ⟨d0, d1, d2, d3, f1⟩ := h8.p.cells4
  obtain ⟨g0, g1, g2, g3, f2⟩ := h8.q.cells4
  obtain ⟨e0, e1, e2, e3, f3⟩ := h8.r.cells4
  have l1 := h8.p.lt
  have l2 := h8.q.lt
  have l3 := h8.r.lt
  obtain ⟨i0, i1, i2, i3, f4⟩ := o8.cells4
  have l4 := o8.lt
  have hm64 : m8 ≤ 64 := by rw [← HL8.out]; exact HLEN.out
  have t1 : decide ((64 : Int) < (m8 : Int)) = false := bool_dec _ (by omega)
  go_wp2_with fail
  obtain ⟨W9, hW9⟩ : ∃ W9, W9 = W8.setCell ⟨g8, 0, none⟩ (.slice A8 m8 c8) := ⟨_, rfl⟩
  rw [← hW9] at h9 o9 hs9 ⊢
  have hz9 : W8.heap.size ≤ W9.heap.size := by rw [hW9]; simp
  clear hW9 h8 o8 d0 d1 d2 d3 g0 g1 g2 g3 e0 e1 e2 e3 f1 f2 f3 l1 l2 l3 i0 i1 i2 i3 f4 l4 hs8 t1
  obtain ⟨u, hu⟩ : ∃ u, used (put fs ⟨file, (fb.extract 0 j), (j : Int)⟩) = u := ⟨_, rfl⟩
  have HU := Lib.hid hu
  have hx0 := fun (x : After W9) => (Var.cells4 (o9.below x.below o9.lt)).1
  have hx1 := fun (x : After W9) => (Var.cells4 (o9.below x.below o9.lt)).2.1
  have hx2 := fun (x : After W9) => (Var.cells4 (o9.below x.below o9.lt)).2.2.1
  have hx3 := fun (x : After W9) => (Var.cells4 (o9.below x.below o9.lt)).2.2.2.1
  have t5 : decide (cap < (u : Int)) = true := decide_eq_true (by have := HUS.out; rw [hu] at this; exact this)
  clear hu
  refine wp_region_after (by kernel_rfl) (by kernel_rfl) ?_
  repeat (go_big_quiet_step ((go_at_call 41; exact Calls.after (ref_used_any A8 m8 c8 W8.heap.size (put fs ⟨file, (fb.extract 0 j), (j : Int)⟩) cap left false u _ HL8.out HU.out (hs9.below ((After.below _).mono hz9)) (Nat.le_trans hz9 (After.below _).size) HSM.out))))
  refine wpQuiet_nil ?_
  rintro _ ⟨x, rfl⟩
  obtain ⟨Wa, hWa⟩ : ∃ Wa, Wa = x.val := ⟨_, rfl⟩
  have ha := h9.next hB x.below
  have oa := o9.below x.below o9.lt
  have hsa := (hs9.below (x.below.mono hz9)).up (Nat.le_trans hz9 x.below.size)
  rw [← hWa] at ha oa hsa ⊢
  clear hWa hx0 hx1 hx2 hx3 h9 o9 hs9 x
  obtain ⟨d0, d1, d2, d3, f1⟩ := ha.p.cells4
  obtain ⟨g0, g1, g2, g3, f2⟩ := ha.q.cells4
  obtain ⟨e0, e1, e2, e3, f3⟩ := ha.r.cells4
  have l1 := ha.p.lt
  have l2 := ha.q.lt
  have l3 := ha.r.lt
  obtain ⟨i0, i1, i2, i3, f4⟩ := oa.cells4
  have l4 := oa.lt
  go_wp2
  refine bodyPost_ret (v := .tuple #[.agg #[.slice none 0 0, .int .i64 0, .int .i64 0, .bool false], .int .i64 31]) (by simp [results, Tryz.results24, go_sem, e0, e1, e2, e3]) rfl (disk_out rfl (Seen.nil _ _ _) (Nat.le_refl _) ha.r disk_noText (by omega) ha.b)
set_option maxRecDepth 100000 in
set_option maxHeartbeats 2000000 in
theorem rdo_31_4 (A : Option Addr) (n c B : Nat) (fs : List Fl) (cap left : Int) (down : Bool) (file : ByteArray)  (w : World) (hn : fs.length = n) (hs : Seen w B A (fcells fs)) (hB : B ≤ w.heap.size) (hsm : Small fs) (hnc : n ≤ c) (hf : file.size ≤ 9223372036854775807) (hc : check ⟨fs, cap, left, down⟩ = true) (hop : isOp ⟨4, file, { data := #[] }, 0⟩ = true) (hd : down = false) (hl : left ≠ 0) (fn fb : ByteArray) (s : Int) (hg : GetRes fs file fn fb s true) (hfb : fb.size ≤ 65536) (hlen : (put fs ⟨file, { data := #[] }, 0⟩).length ≤ 64) (hus : cap < (used (put fs ⟨file, { data := #[] }, 0⟩) : Int)) : Calls Tryz.prog 24 #[.agg #[.slice A n c, .int .i64 cap, .int .i64 left, .bool down], .agg #[.int .i8 4, .string file, .string { data := #[] }, .int .i64 0]] w (DiskRes [] 0 0 false 31 w) := by
  subst hd
  have _q1 := hfb
  clear _q1
  have y0 : (left == 0) = false := by rw [beq_eq_false_iff_ne]; exact hl
  have HG := Lib.hid hg
  have hgs : ({ data := #[] } : ByteArray).size ≤ 400000 := by decide
  have HSM := Lib.hid (put_small (f := ⟨file, { data := #[] }, 0⟩) (check_small hc) (Nat.le_trans (check_parts hc).1 (by decide)) hgs (by have := okName_le (isOp_ways hop).1; show file.size ≤ 100; omega))
  have hpw := (check_sorted hc).1
  have HPW := Lib.hid hpw
  have HLEN := Lib.hid hlen
  have HUS := Lib.hid hus
  clear hg hl hpw hlen hus
  have HOP := Lib.hid hop
  clear hop
  have HN := Lib.hid hn
  have HC : Hid (code (check ⟨fs, cap, left, false⟩) = 0) := by show _ = _; rw [hc]; rfl
  have _u1 := hnc
  have _u2 := hf
  clear hn hc _u1 _u2
  go_enter Tryz.func24, Tryz.ntmps24
  go_wp2_with fail
  obtain ⟨W0, hW0⟩ : ∃ W0, W0 = ((w.alloc (.cells #[.slice A n c, .int .i64 cap, .int .i64 left, .bool false] 24)).alloc (.cells #[.int .i8 4, .string file, .string { data := #[] }, .int .i64 0] 50)).alloc (.cells #[.slice none 0 0, .int .i64 0, .int .i64 0, .bool false] 24) := ⟨_, rfl⟩
  have h0 : V3 24 50 24 #[.slice A n c, .int .i64 cap, .int .i64 left, .bool false] #[.int .i8 4, .string file, .string { data := #[] }, .int .i64 0] #[.slice none 0 0, .int .i64 0, .int .i64 0, .bool false] B A fs w W0 := by rw [hW0]; exact V3.start hs hB
  rw [← hW0]
  clear hW0
  refine (ref_check_any A n c B fs cap left false 0 _ HN.out HC.out h0.s (Nat.le_trans hB h0.b.size) hsm).mono ?_
  rintro e W1 ⟨rfl, hx⟩
  have h1 := h0.next hB hx
  clear hx h0
  obtain ⟨d0, d1, d2, d3, f1⟩ := h1.p.cells4
  obtain ⟨g0, g1, g2, g3, f2⟩ := h1.q.cells4
  obtain ⟨e0, e1, e2, e3, f3⟩ := h1.r.cells4
  have l1 := h1.p.lt
  have l2 := h1.q.lt
  have l3 := h1.r.lt
  go_wp2_with fail
  refine (ref_may_any 4 file { data := #[] } 0 true _ hf HOP.out).mono ?_
  rintro e W2 ⟨rfl, hx⟩
  have h2 := h1.next hB hx
  clear hx h1 d0 d1 d2 d3 g0 g1 g2 g3 e0 e1 e2 e3 f1 f2 f3 l1 l2 l3
  obtain ⟨d0, d1, d2, d3, f1⟩ := h2.p.cells4
  obtain ⟨g0, g1, g2, g3, f2⟩ := h2.q.cells4
  obtain ⟨e0, e1, e2, e3, f3⟩ := h2.r.cells4
  have l1 := h2.p.lt
  have l2 := h2.q.lt
  have l3 := h2.r.lt
  go_wp2_with fail
  refine (ref_get_any A n c B fs cap left false file fn fb s true _ HG.out HN.out h2.s (Nat.le_trans hB h2.b.size) (by have := HN.out; have := hsm.1; omega)).mono ?_
  rintro e W3 ⟨rfl, hx⟩
  have h3 := h2.next hB hx
  clear hx h2 d0 d1 d2 d3 g0 g1 g2 g3 e0 e1 e2 e3 f1 f2 f3 l1 l2 l3
  obtain ⟨d0, d1, d2, d3, f1⟩ := h3.p.cells4
  obtain ⟨g0, g1, g2, g3, f2⟩ := h3.q.cells4
  obtain ⟨e0, e1, e2, e3, f3⟩ := h3.r.cells4
  have l1 := h3.p.lt
  have l2 := h3.q.lt
  have l3 := h3.r.lt
  go_upto_region 9 with fail
  obtain ⟨W5, hW5⟩ : ∃ W5, W5 = W3.alloc (.cells #[.string fn, .string fb, .int .i64 s] 48) := ⟨_, rfl⟩
  obtain ⟨g6, hg6⟩ : ∃ g6, g6 = W3.heap.size := ⟨_, rfl⟩
  have h5 := h3.next hB (bel1 W3 #[.string fn, .string fb, .int .i64 s] 48)
  rw [← hW5] at h5
  have u5 : Var W5 g6 48 #[.string fn, .string fb, .int .i64 s] := by rw [hW5, hg6]; exact new1 W3 _ _
  have hg6z : w.heap.size + 3 ≤ g6 := by rw [hg6]; exact h3.z
  rw [← hW5, ← hg6]
  clear hW5 hg6 h3 d0 d1 d2 d3 g0 g1 g2 g3 e0 e1 e2 e3 f1 f2 f3 l1 l2 l3
  obtain ⟨d0, d1, d2, d3, f1⟩ := h5.p.cells4
  obtain ⟨g0, g1, g2, g3, f2⟩ := h5.q.cells4
  obtain ⟨e0, e1, e2, e3, f3⟩ := h5.r.cells4
  have l1 := h5.p.lt
  have l2 := h5.q.lt
  have l3 := h5.r.lt
  obtain ⟨i0, i1, i2, f4⟩ := u5.cells3
  have l4 := u5.lt
  obtain ⟨W6, hW6⟩ : ∃ W6, W6 = (((W5.setCell ⟨g6, 0, none⟩ (.string file)).setCell ⟨g6, 1, none⟩ (.string { data := #[] })).setCell ⟨g6, 2, none⟩ (.int .i64 0)) := ⟨_, rfl⟩
  have h6 := (((h5.set hB 0 (.string file) hg6z).set hB 1 (.string { data := #[] }) hg6z).set hB 2 (.int .i64 0) hg6z)
  have u6 : Var W6 g6 48 #[.string file, .string { data := #[] }, .int .i64 0] := by rw [hW6]; simpa using (((u5.set 0 (.string file)).set 1 (.string { data := #[] })).set 2 (.int .i64 0))
  rw [← hW6] at h6
  have z6 : W6.heap.size = W5.heap.size := by rw [hW6]; simp
  obtain ⟨g8, hg8⟩ : ∃ g8, g8 = W5.heap.size := ⟨_, rfl⟩
  obtain ⟨W7, hW7⟩ : ∃ W7, W7 = W6.alloc (.cells #[.slice A n c, .int .i64 cap, .int .i64 left, .bool false] 24) := ⟨_, rfl⟩
  have h7 := h6.next hB (bel1 W6 #[.slice A n c, .int .i64 cap, .int .i64 left, .bool false] 24)
  rw [← hW7] at h7
  have o7 : Var W7 g8 24 #[.slice A n c, .int .i64 cap, .int .i64 left, .bool false] := by
    have h := new1 W6 #[.slice A n c, .int .i64 cap, .int .i64 left, .bool false] 24
    rw [z6, ← hg8, ← hW7] at h
    exact h
  have hg8z : w.heap.size + 3 ≤ g8 := by rw [hg8]; exact h5.z
  go_wp2_with fail
  rw [← hW6, ← hg8, ← hW7]
  clear hW6 hW7 hg8 h6 z6 u6 h5 u5 d0 d1 d2 d3 g0 g1 g2 g3 e0 e1 e2 e3 f1 f2 f3 l1 l2 l3 i0 i1 i2 f4 l4
  refine (ref_with_any A n c B fs file { data := #[] } 0 _ HN.out h7.s (Nat.le_trans hB h7.b.size) (by have := HN.out; have := hsm.1; omega) (Nat.le_trans hgs (by decide)) HPW.out).mono ?_
  rintro e W8 ⟨A8, m8, c8, rfl, hl8, hs8, hm8, hx⟩
  have HL8 := Lib.hid hl8
  have h8 := h7.next hB hx
  have o8 := o7.below hx o7.lt
  clear hl8 hx h7 o7
  have hs9 : Seen (W8.setCell ⟨g8, 0, none⟩ (.slice A8 m8 c8)) W8.heap.size A8 (fcells (put fs ⟨file, { data := #[] }, 0⟩)) := hs8.off (seen_apart hs8 o8 disk_noText)
  have h9 := h8.set hB 0 (.slice A8 m8 c8) hg8z
  have o9 : Var (W8.setCell ⟨g8, 0, none⟩ (.slice A8 m8 c8)) g8 24 #[.slice A8 m8 c8, .int .i64 cap, .int .i64 left, .bool false] := by simpa using o8.set 0 (.slice A8 m8 c8)
  obtain ⟨d0, d1, d2, d3, f1⟩ := h8.p.cells4
  obtain ⟨g0, g1, g2, g3, f2⟩ := h8.q.cells4
  obtain ⟨e0, e1, e2, e3, f3⟩ := h8.r.cells4
  have l1 := h8.p.lt
  have l2 := h8.q.lt
  have l3 := h8.r.lt
  obtain ⟨i0, i1, i2, i3, f4⟩ := o8.cells4
  have l4 := o8.lt
  have hm64 : m8 ≤ 64 := by rw [← HL8.out]; exact HLEN.out
  have t1 : decide ((64 : Int) < (m8 : Int)) = false := bool_dec _ (by omega)
  go_wp2_with fail
  obtain ⟨W9, hW9⟩ : ∃ W9, W9 = W8.setCell ⟨g8, 0, none⟩ (.slice A8 m8 c8) := ⟨_, rfl⟩
  rw [← hW9] at h9 o9 hs9 ⊢
  have hz9 : W8.heap.size ≤ W9.heap.size := by rw [hW9]; simp
  clear hW9 h8 o8 d0 d1 d2 d3 g0 g1 g2 g3 e0 e1 e2 e3 f1 f2 f3 l1 l2 l3 i0 i1 i2 i3 f4 l4 hs8 t1
  obtain ⟨u, hu⟩ : ∃ u, used (put fs ⟨file, { data := #[] }, 0⟩) = u := ⟨_, rfl⟩
  have HU := Lib.hid hu
  have hx0 := fun (x : After W9) => (Var.cells4 (o9.below x.below o9.lt)).1
  have hx1 := fun (x : After W9) => (Var.cells4 (o9.below x.below o9.lt)).2.1
  have hx2 := fun (x : After W9) => (Var.cells4 (o9.below x.below o9.lt)).2.2.1
  have hx3 := fun (x : After W9) => (Var.cells4 (o9.below x.below o9.lt)).2.2.2.1
  have t5 : decide (cap < (u : Int)) = true := decide_eq_true (by have := HUS.out; rw [hu] at this; exact this)
  clear hu
  refine wp_region_after (by kernel_rfl) (by kernel_rfl) ?_
  repeat (go_big_quiet_step ((go_at_call 41; exact Calls.after (ref_used_any A8 m8 c8 W8.heap.size (put fs ⟨file, { data := #[] }, 0⟩) cap left false u _ HL8.out HU.out (hs9.below ((After.below _).mono hz9)) (Nat.le_trans hz9 (After.below _).size) HSM.out))))
  refine wpQuiet_nil ?_
  rintro _ ⟨x, rfl⟩
  obtain ⟨Wa, hWa⟩ : ∃ Wa, Wa = x.val := ⟨_, rfl⟩
  have ha := h9.next hB x.below
  have oa := o9.below x.below o9.lt
  have hsa := (hs9.below (x.below.mono hz9)).up (Nat.le_trans hz9 x.below.size)
  rw [← hWa] at ha oa hsa ⊢
  clear hWa hx0 hx1 hx2 hx3 h9 o9 hs9 x
  obtain ⟨d0, d1, d2, d3, f1⟩ := ha.p.cells4
  obtain ⟨g0, g1, g2, g3, f2⟩ := ha.q.cells4
  obtain ⟨e0, e1, e2, e3, f3⟩ := ha.r.cells4
  have l1 := ha.p.lt
  have l2 := ha.q.lt
  have l3 := ha.r.lt
  obtain ⟨i0, i1, i2, i3, f4⟩ := oa.cells4
  have l4 := oa.lt
  go_wp2
  refine bodyPost_ret (v := .tuple #[.agg #[.slice none 0 0, .int .i64 0, .int .i64 0, .bool false], .int .i64 31]) (by simp [results, Tryz.results24, go_sem, e0, e1, e2, e3]) rfl (disk_out rfl (Seen.nil _ _ _) (Nat.le_refl _) ha.r disk_noText (by omega) ha.b)
end Go.Proofs.YtpppeadmhfggkaaGreatDoor
