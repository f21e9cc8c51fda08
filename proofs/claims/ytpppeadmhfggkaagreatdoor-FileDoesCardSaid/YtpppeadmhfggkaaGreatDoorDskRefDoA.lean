/-
  The contract of the reference's Do: its ways out. Conditions: those that each theorem names.
-/
import Derived.Test.YtpppeadmhfggkaaGreatDoorDskRefMay
import Derived.Test.YtpppeadmhfggkaaGreatDoorDskRefWith
import Derived.Test.YtpppeadmhfggkaaGreatDoorDskRefGet
namespace Go.Proofs.YtpppeadmhfggkaaGreatDoor
open Go.RowKit DP

/-- Three variables and the files. -/
structure V3 (T1 T2 T3 : TypeId) (c1 c2 c3 : Array Value) (B : Nat) (A : Option Addr) (fs : List Fl) (w W : World) : Prop where
  p : Var W w.heap.size T1 c1
  q : Var W (w.heap.size + 1) T2 c2
  r : Var W (w.heap.size + 1 + 1) T3 c3
  s : Seen W B A (fcells fs)
  b : Below w.heap.size w W
  z : w.heap.size + 3 ≤ W.heap.size
section
variable {T1 T2 T3 : TypeId} {c1 c2 c3 : Array Value} {B : Nat} {A : Option Addr} {fs : List Fl} {w W W' : World}
theorem V3.start (hs : Seen w B A (fcells fs)) (hB : B ≤ w.heap.size) : V3 T1 T2 T3 c1 c2 c3 B A fs w (((w.alloc (.cells c1 T1)).alloc (.cells c2 T2)).alloc (.cells c3 T3)) :=
  have h := new3 w c1 c2 c3 T1 T2 T3
  have hb := bel3 w c1 c2 c3 T1 T2 T3
  ⟨h.1, h.2.1, h.2.2, hs.below (hb.mono hB), hb, by simp⟩
theorem V3.next (h : V3 T1 T2 T3 c1 c2 c3 B A fs w W) (hB : B ≤ w.heap.size) (k : Below W.heap.size W W') : V3 T1 T2 T3 c1 c2 c3 B A fs w W' :=
  ⟨h.p.below k h.p.lt, h.q.below k h.q.lt, h.r.below k h.r.lt, h.s.below (k.mono (Nat.le_trans hB h.b.size)), h.b.trans (k.mono h.b.size), Nat.le_trans h.z k.size⟩
theorem V3.set (h : V3 T1 T2 T3 c1 c2 c3 B A fs w W) (hB : B ≤ w.heap.size) {g : Nat} (i : Nat) (u : Value) (hg : w.heap.size + 3 ≤ g) : V3 T1 T2 T3 c1 c2 c3 B A fs w (W.setCell ⟨g, i, none⟩ u) :=
  ⟨h.p.other i u (by omega), h.q.other i u (by omega), h.r.other i u (by omega), h.s.set (by show B ≤ g; omega) u, h.b.setCell (by show w.heap.size ≤ g; omega) u, by simpa using h.z⟩
end
set_option maxRecDepth 100000 in
set_option maxHeartbeats 2000000 in
theorem rdo_bad (A : Option Addr) (n c B : Nat) (fs : List Fl) (cap left : Int) (down : Bool) (op : Int) (file b : ByteArray) (k : Int) (w : World) (hn : fs.length = n) (hs : Seen w B A (fcells fs)) (hB : B ≤ w.heap.size) (hsm : Small fs) (hnc : n ≤ c) (hf : file.size ≤ 9223372036854775807) (hc : check ⟨fs, cap, left, down⟩ = false) : Calls Tryz.prog 24 #[.agg #[.slice A n c, .int .i64 cap, .int .i64 left, .bool down], .agg #[.int .i8 op, .string file, .string b, .int .i64 k]] w (DiskRes [] 0 0 false 2 w) := by
  have HN := Lib.hid hn
  have HC : Hid (code (check ⟨fs, cap, left, down⟩) = 2) := by show _ = _; rw [hc]; rfl
  have _u1 := hnc
  have _u2 := hf
  clear hn hc _u1 _u2
  go_enter Tryz.func24, Tryz.ntmps24
  go_wp2_with fail
  obtain ⟨W0, hW0⟩ : ∃ W0, W0 = ((w.alloc (.cells #[.slice A n c, .int .i64 cap, .int .i64 left, .bool down] 24)).alloc (.cells #[.int .i8 op, .string file, .string b, .int .i64 k] 50)).alloc (.cells #[.slice none 0 0, .int .i64 0, .int .i64 0, .bool false] 24) := ⟨_, rfl⟩
  have h0 : V3 24 50 24 #[.slice A n c, .int .i64 cap, .int .i64 left, .bool down] #[.int .i8 op, .string file, .string b, .int .i64 k] #[.slice none 0 0, .int .i64 0, .int .i64 0, .bool false] B A fs w W0 := by rw [hW0]; exact V3.start hs hB
  rw [← hW0]
  clear hW0
  refine (ref_check_any A n c B fs cap left down 2 _ HN.out HC.out h0.s (Nat.le_trans hB h0.b.size) hsm).mono ?_
  rintro e W1 ⟨rfl, hx⟩
  have h1 := h0.next hB hx
  clear hx h0
  obtain ⟨d0, d1, d2, d3, f1⟩ := h1.p.cells4
  obtain ⟨g0, g1, g2, g3, f2⟩ := h1.q.cells4
  obtain ⟨e0, e1, e2, e3, f3⟩ := h1.r.cells4
  have l1 := h1.p.lt
  have l2 := h1.q.lt
  have l3 := h1.r.lt
  go_wp2
  refine bodyPost_ret (v := .tuple #[.agg #[.slice none 0 0, .int .i64 0, .int .i64 0, .bool false], .int .i64 2]) (by simp [results, Tryz.results24, go_sem, e0, e1, e2, e3]) rfl (disk_out rfl (Seen.nil _ _ _) (Nat.le_refl _) h1.r disk_noText (by omega) h1.b)
set_option maxRecDepth 100000 in
set_option maxHeartbeats 2000000 in
theorem rdo_noop (A : Option Addr) (n c B : Nat) (fs : List Fl) (cap left : Int) (down : Bool) (op : Int) (file b : ByteArray) (k : Int) (w : World) (hn : fs.length = n) (hs : Seen w B A (fcells fs)) (hB : B ≤ w.heap.size) (hsm : Small fs) (hnc : n ≤ c) (hf : file.size ≤ 9223372036854775807) (hc : check ⟨fs, cap, left, down⟩ = true) (hop : isOp ⟨op, file, b, k⟩ = false) : Calls Tryz.prog 24 #[.agg #[.slice A n c, .int .i64 cap, .int .i64 left, .bool down], .agg #[.int .i8 op, .string file, .string b, .int .i64 k]] w (DiskRes [] 0 0 false 2 w) := by
  have HOP := Lib.hid hop
  clear hop
  have HN := Lib.hid hn
  have HC : Hid (code (check ⟨fs, cap, left, down⟩) = 0) := by show _ = _; rw [hc]; rfl
  have _u1 := hnc
  have _u2 := hf
  clear hn hc _u1 _u2
  go_enter Tryz.func24, Tryz.ntmps24
  go_wp2_with fail
  obtain ⟨W0, hW0⟩ : ∃ W0, W0 = ((w.alloc (.cells #[.slice A n c, .int .i64 cap, .int .i64 left, .bool down] 24)).alloc (.cells #[.int .i8 op, .string file, .string b, .int .i64 k] 50)).alloc (.cells #[.slice none 0 0, .int .i64 0, .int .i64 0, .bool false] 24) := ⟨_, rfl⟩
  have h0 : V3 24 50 24 #[.slice A n c, .int .i64 cap, .int .i64 left, .bool down] #[.int .i8 op, .string file, .string b, .int .i64 k] #[.slice none 0 0, .int .i64 0, .int .i64 0, .bool false] B A fs w W0 := by rw [hW0]; exact V3.start hs hB
  rw [← hW0]
  clear hW0
  refine (ref_check_any A n c B fs cap left down 0 _ HN.out HC.out h0.s (Nat.le_trans hB h0.b.size) hsm).mono ?_
  rintro e W1 ⟨rfl, hx⟩
  have h1 := h0.next hB hx
  clear hx h0
  obtain ⟨d0, d1, d2, d3, f1⟩ := h1.p.cells4
  obtain ⟨g0, g1, g2, g3, f2⟩ := h1.q.cells4
  obtain ⟨e0, e1, e2, e3, f3⟩ := h1.r.cells4
  have l1 := h1.p.lt
  have l2 := h1.q.lt
  have l3 := h1.r.lt
  go_wp2_with fail
  refine (ref_may_any op file b k false _ hf HOP.out).mono ?_
  rintro e W2 ⟨rfl, hx⟩
  have h2 := h1.next hB hx
  clear hx h1 d0 d1 d2 d3 g0 g1 g2 g3 e0 e1 e2 e3 f1 f2 f3 l1 l2 l3
  obtain ⟨d0, d1, d2, d3, f1⟩ := h2.p.cells4
  obtain ⟨g0, g1, g2, g3, f2⟩ := h2.q.cells4
  obtain ⟨e0, e1, e2, e3, f3⟩ := h2.r.cells4
  have l1 := h2.p.lt
  have l2 := h2.q.lt
  have l3 := h2.r.lt
  go_wp2
  refine bodyPost_ret (v := .tuple #[.agg #[.slice none 0 0, .int .i64 0, .int .i64 0, .bool false], .int .i64 2]) (by simp [results, Tryz.results24, go_sem, e0, e1, e2, e3]) rfl (disk_out rfl (Seen.nil _ _ _) (Nat.le_refl _) h2.r disk_noText (by omega) h2.b)
set_option maxRecDepth 100000 in
set_option maxHeartbeats 2000000 in
theorem rdo_down (A : Option Addr) (n c B : Nat) (fs : List Fl) (cap left : Int) (down : Bool) (op : Int) (file b : ByteArray) (k : Int) (w : World) (hn : fs.length = n) (hs : Seen w B A (fcells fs)) (hB : B ≤ w.heap.size) (hsm : Small fs) (hnc : n ≤ c) (hf : file.size ≤ 9223372036854775807) (hc : check ⟨fs, cap, left, down⟩ = true) (hop : isOp ⟨op, file, b, k⟩ = true) (hd : down = true) : Calls Tryz.prog 24 #[.agg #[.slice A n c, .int .i64 cap, .int .i64 left, .bool down], .agg #[.int .i8 op, .string file, .string b, .int .i64 k]] w (DiskRes [] 0 0 false 30 w) := by
  subst hd
  have HOP := Lib.hid hop
  clear hop
  have HN := Lib.hid hn
  have HC : Hid (code (check ⟨fs, cap, left, true⟩) = 0) := by show _ = _; rw [hc]; rfl
  have _u1 := hnc
  have _u2 := hf
  clear hn hc _u1 _u2
  go_enter Tryz.func24, Tryz.ntmps24
  go_wp2_with fail
  obtain ⟨W0, hW0⟩ : ∃ W0, W0 = ((w.alloc (.cells #[.slice A n c, .int .i64 cap, .int .i64 left, .bool true] 24)).alloc (.cells #[.int .i8 op, .string file, .string b, .int .i64 k] 50)).alloc (.cells #[.slice none 0 0, .int .i64 0, .int .i64 0, .bool false] 24) := ⟨_, rfl⟩
  have h0 : V3 24 50 24 #[.slice A n c, .int .i64 cap, .int .i64 left, .bool true] #[.int .i8 op, .string file, .string b, .int .i64 k] #[.slice none 0 0, .int .i64 0, .int .i64 0, .bool false] B A fs w W0 := by rw [hW0]; exact V3.start hs hB
  rw [← hW0]
  clear hW0
  refine (ref_check_any A n c B fs cap left true 0 _ HN.out HC.out h0.s (Nat.le_trans hB h0.b.size) hsm).mono ?_
  rintro e W1 ⟨rfl, hx⟩
  have h1 := h0.next hB hx
  clear hx h0
  obtain ⟨d0, d1, d2, d3, f1⟩ := h1.p.cells4
  obtain ⟨g0, g1, g2, g3, f2⟩ := h1.q.cells4
  obtain ⟨e0, e1, e2, e3, f3⟩ := h1.r.cells4
  have l1 := h1.p.lt
  have l2 := h1.q.lt
  have l3 := h1.r.lt
  go_wp2_with fail
  refine (ref_may_any op file b k true _ hf HOP.out).mono ?_
  rintro e W2 ⟨rfl, hx⟩
  have h2 := h1.next hB hx
  clear hx h1 d0 d1 d2 d3 g0 g1 g2 g3 e0 e1 e2 e3 f1 f2 f3 l1 l2 l3
  obtain ⟨d0, d1, d2, d3, f1⟩ := h2.p.cells4
  obtain ⟨g0, g1, g2, g3, f2⟩ := h2.q.cells4
  obtain ⟨e0, e1, e2, e3, f3⟩ := h2.r.cells4
  have l1 := h2.p.lt
  have l2 := h2.q.lt
  have l3 := h2.r.lt
  go_wp2
  refine bodyPost_ret (v := .tuple #[.agg #[.slice none 0 0, .int .i64 0, .int .i64 0, .bool false], .int .i64 30]) (by simp [results, Tryz.results24, go_sem, e0, e1, e2, e3]) rfl (disk_out rfl (Seen.nil _ _ _) (Nat.le_refl _) h2.r disk_noText (by omega) h2.b)
set_option maxRecDepth 100000 in
set_option maxHeartbeats 2000000 in
theorem rdo_fall (A : Option Addr) (n c B : Nat) (fs : List Fl) (cap left : Int) (down : Bool) (op : Int) (file b : ByteArray) (k : Int) (w : World) (hn : fs.length = n) (hs : Seen w B A (fcells fs)) (hB : B ≤ w.heap.size) (hsm : Small fs) (hnc : n ≤ c) (hf : file.size ≤ 9223372036854775807) (hc : check ⟨fs, cap, left, down⟩ = true) (hop : isOp ⟨op, file, b, k⟩ = true) (hd : down = false) (hl : left = 0) : Calls Tryz.prog 24 #[.agg #[.slice A n c, .int .i64 cap, .int .i64 left, .bool down], .agg #[.int .i8 op, .string file, .string b, .int .i64 k]] w (DiskRes fs cap 0 true 30 w) := by
  subst hd hl
  have HOP := Lib.hid hop
  clear hop
  have HN := Lib.hid hn
  have HC : Hid (code (check ⟨fs, cap, 0, false⟩) = 0) := by show _ = _; rw [hc]; rfl
  have _u1 := hnc
  have _u2 := hf
  clear hn hc _u1 _u2
  go_enter Tryz.func24, Tryz.ntmps24
  go_wp2_with fail
  obtain ⟨W0, hW0⟩ : ∃ W0, W0 = ((w.alloc (.cells #[.slice A n c, .int .i64 cap, .int .i64 0, .bool false] 24)).alloc (.cells #[.int .i8 op, .string file, .string b, .int .i64 k] 50)).alloc (.cells #[.slice none 0 0, .int .i64 0, .int .i64 0, .bool false] 24) := ⟨_, rfl⟩
  have h0 : V3 24 50 24 #[.slice A n c, .int .i64 cap, .int .i64 0, .bool false] #[.int .i8 op, .string file, .string b, .int .i64 k] #[.slice none 0 0, .int .i64 0, .int .i64 0, .bool false] B A fs w W0 := by rw [hW0]; exact V3.start hs hB
  rw [← hW0]
  clear hW0
  refine (ref_check_any A n c B fs cap 0 false 0 _ HN.out HC.out h0.s (Nat.le_trans hB h0.b.size) hsm).mono ?_
  rintro e W1 ⟨rfl, hx⟩
  have h1 := h0.next hB hx
  clear hx h0
  obtain ⟨d0, d1, d2, d3, f1⟩ := h1.p.cells4
  obtain ⟨g0, g1, g2, g3, f2⟩ := h1.q.cells4
  obtain ⟨e0, e1, e2, e3, f3⟩ := h1.r.cells4
  have l1 := h1.p.lt
  have l2 := h1.q.lt
  have l3 := h1.r.lt
  go_wp2_with fail
  refine (ref_may_any op file b k true _ hf HOP.out).mono ?_
  rintro e W2 ⟨rfl, hx⟩
  have h2 := h1.next hB hx
  clear hx h1 d0 d1 d2 d3 g0 g1 g2 g3 e0 e1 e2 e3 f1 f2 f3 l1 l2 l3
  obtain ⟨d0, d1, d2, d3, f1⟩ := h2.p.cells4
  obtain ⟨g0, g1, g2, g3, f2⟩ := h2.q.cells4
  obtain ⟨e0, e1, e2, e3, f3⟩ := h2.r.cells4
  have l1 := h2.p.lt
  have l2 := h2.q.lt
  have l3 := h2.r.lt
  have u1 : Var (W2.setCell ⟨w.heap.size, 3, none⟩ (.bool true)) w.heap.size 24 #[.slice A n c, .int .i64 cap, .int .i64 0, .bool true] := by simpa using h2.p.set 3 (.bool true)
  have u3 : Var (W2.setCell ⟨w.heap.size, 3, none⟩ (.bool true)) (w.heap.size + 1 + 1) 24 #[.slice none 0 0, .int .i64 0, .int .i64 0, .bool false] := h2.r.other 3 _ (by omega)
  have hs2 : Seen (W2.setCell ⟨w.heap.size, 3, none⟩ (.bool true)) B A (fcells fs) := h2.s.off (seen_apart h2.s h2.p disk_noText)
  have hb2 : Below w.heap.size w (W2.setCell ⟨w.heap.size, 3, none⟩ (.bool true)) := h2.b.setCell (Nat.le_refl _) _
  have hz2 := h2.b.size
  go_wp2
  refine bodyPost_ret (v := .tuple #[.agg #[.slice A n c, .int .i64 cap, .int .i64 0, .bool true], .int .i64 30]) (by simp [results, Tryz.results24, go_sem, e0, e1, e2, e3]) rfl ?_
  exact disk_out HN.out (hs2.up (by simp; omega)) hnc u3 disk_noText (by omega) hb2
set_option maxRecDepth 100000 in
set_option maxHeartbeats 2000000 in
theorem rdo_nofile1 (A : Option Addr) (n c B : Nat) (fs : List Fl) (cap left : Int) (down : Bool) (file : ByteArray)  (w : World) (hn : fs.length = n) (hs : Seen w B A (fcells fs)) (hB : B ≤ w.heap.size) (hsm : Small fs) (hnc : n ≤ c) (hf : file.size ≤ 9223372036854775807) (hc : check ⟨fs, cap, left, down⟩ = true) (hop : isOp ⟨1, file, { data := #[] }, 0⟩ = true) (hd : down = false) (hl : left ≠ 0) (hg : GetRes fs file { data := #[] } { data := #[] } 0 false) : Calls Tryz.prog 24 #[.agg #[.slice A n c, .int .i64 cap, .int .i64 left, .bool down], .agg #[.int .i8 1, .string file, .string { data := #[] }, .int .i64 0]] w (DiskRes [] 0 0 false 32 w) := by
  subst hd
  have y0 : (left == 0) = false := by rw [beq_eq_false_iff_ne]; exact hl
  have HG := Lib.hid hg
  clear hg hl
  have HOP := Lib.hid hop
  clear hop
  have HN := Lib.hid hn
  have HC : Hid (code (check ⟨fs, cap, left, false⟩) = 0) := by show _ = _; rw [hc]; rfl
  have _u1 := hnc
  have _u2 := hf
  clear hn hc _u1 _u2
  go_enter Tryz.func24, Tryz.ntmps24
  go_wp2_with fail
  obtain ⟨W0, hW0⟩ : ∃ W0, W0 = ((w.alloc (.cells #[.slice A n c, .int .i64 cap, .int .i64 left, .bool false] 24)).alloc (.cells #[.int .i8 1, .string file, .string { data := #[] }, .int .i64 0] 50)).alloc (.cells #[.slice none 0 0, .int .i64 0, .int .i64 0, .bool false] 24) := ⟨_, rfl⟩
  have h0 : V3 24 50 24 #[.slice A n c, .int .i64 cap, .int .i64 left, .bool false] #[.int .i8 1, .string file, .string { data := #[] }, .int .i64 0] #[.slice none 0 0, .int .i64 0, .int .i64 0, .bool false] B A fs w W0 := by rw [hW0]; exact V3.start hs hB
  rw [← hW0]
  clear hW0
  refine (ref_check_any A n c B fs cap left false 0 _ HN.out HC.out h0.s (Nat.le_trans hB h0.b.size) hsm).mono ?_
  rintro e W1 ⟨rfl, hx⟩
  have h1 := h0.next hB hx
  clear hx h0
  obtain ⟨d0, d1, d2, d3, f1⟩ := h1.p.cells4
  obtain ⟨g0, g1, g2, g3, f2⟩ := h1.q.cells4
  obtain ⟨e0, e1, e2, e3, f3⟩ := h1.r.cells4
  have l1 := h1.p.lt
  have l2 := h1.q.lt
  have l3 := h1.r.lt
  go_wp2_with fail
  refine (ref_may_any 1 file { data := #[] } 0 true _ hf HOP.out).mono ?_
  rintro e W2 ⟨rfl, hx⟩
  have h2 := h1.next hB hx
  clear hx h1 d0 d1 d2 d3 g0 g1 g2 g3 e0 e1 e2 e3 f1 f2 f3 l1 l2 l3
  obtain ⟨d0, d1, d2, d3, f1⟩ := h2.p.cells4
  obtain ⟨g0, g1, g2, g3, f2⟩ := h2.q.cells4
  obtain ⟨e0, e1, e2, e3, f3⟩ := h2.r.cells4
  have l1 := h2.p.lt
  have l2 := h2.q.lt
  have l3 := h2.r.lt
  go_wp2_with fail
  refine (ref_get_any A n c B fs cap left false file { data := #[] } { data := #[] } 0 false _ HG.out HN.out h2.s (Nat.le_trans hB h2.b.size) (by have := HN.out; have := hsm.1; omega)).mono ?_
  rintro e W3 ⟨rfl, hx⟩
  have h3 := h2.next hB hx
  clear hx h2 d0 d1 d2 d3 g0 g1 g2 g3 e0 e1 e2 e3 f1 f2 f3 l1 l2 l3
  obtain ⟨d0, d1, d2, d3, f1⟩ := h3.p.cells4
  obtain ⟨g0, g1, g2, g3, f2⟩ := h3.q.cells4
  obtain ⟨e0, e1, e2, e3, f3⟩ := h3.r.cells4
  have l1 := h3.p.lt
  have l2 := h3.q.lt
  have l3 := h3.r.lt
  go_upto_region 9 with fail
  obtain ⟨W5, hW5⟩ : ∃ W5, W5 = W3.alloc (.cells #[.string { data := #[] }, .string { data := #[] }, .int .i64 0] 48) := ⟨_, rfl⟩
  obtain ⟨g6, hg6⟩ : ∃ g6, g6 = W3.heap.size := ⟨_, rfl⟩
  have h5 := h3.next hB (bel1 W3 #[.string { data := #[] }, .string { data := #[] }, .int .i64 0] 48)
  rw [← hW5] at h5
  have u5 : Var W5 g6 48 #[.string { data := #[] }, .string { data := #[] }, .int .i64 0] := by rw [hW5, hg6]; exact new1 W3 _ _
  have hg6z : w.heap.size + 3 ≤ g6 := by rw [hg6]; exact h3.z
  rw [← hW5, ← hg6]
  clear hW5 hg6 h3 d0 d1 d2 d3 g0 g1 g2 g3 e0 e1 e2 e3 f1 f2 f3 l1 l2 l3
  obtain ⟨d0, d1, d2, d3, f1⟩ := h5.p.cells4
  obtain ⟨g0, g1, g2, g3, f2⟩ := h5.q.cells4
  obtain ⟨e0, e1, e2, e3, f3⟩ := h5.r.cells4
  have l1 := h5.p.lt
  have l2 := h5.q.lt
  have l3 := h5.r.lt
  obtain ⟨i0, i1, i2, f4⟩ := u5.cells3
  have l4 := u5.lt
  go_wp2
  refine bodyPost_ret (v := .tuple #[.agg #[.slice none 0 0, .int .i64 0, .int .i64 0, .bool false], .int .i64 32]) (by simp [results, Tryz.results24, go_sem, e0, e1, e2, e3]) rfl (disk_out rfl (Seen.nil _ _ _) (Nat.le_refl _) h5.r disk_noText (by omega) h5.b)
set_option maxRecDepth 100000 in
set_option maxHeartbeats 2000000 in
theorem rdo_nofile3 (A : Option Addr) (n c B : Nat) (fs : List Fl) (cap left : Int) (down : Bool) (file : ByteArray) (k : Int) (w : World) (hn : fs.length = n) (hs : Seen w B A (fcells fs)) (hB : B ≤ w.heap.size) (hsm : Small fs) (hnc : n ≤ c) (hf : file.size ≤ 9223372036854775807) (hc : check ⟨fs, cap, left, down⟩ = true) (hop : isOp ⟨3, file, { data := #[] }, k⟩ = true) (hd : down = false) (hl : left ≠ 0) (hg : GetRes fs file { data := #[] } { data := #[] } 0 false) : Calls Tryz.prog 24 #[.agg #[.slice A n c, .int .i64 cap, .int .i64 left, .bool down], .agg #[.int .i8 3, .string file, .string { data := #[] }, .int .i64 k]] w (DiskRes [] 0 0 false 32 w) := by
  subst hd
  have y0 : (left == 0) = false := by rw [beq_eq_false_iff_ne]; exact hl
  have HG := Lib.hid hg
  clear hg hl
  have HOP := Lib.hid hop
  clear hop
  have HN := Lib.hid hn
  have HC : Hid (code (check ⟨fs, cap, left, false⟩) = 0) := by show _ = _; rw [hc]; rfl
  have _u1 := hnc
  have _u2 := hf
  clear hn hc _u1 _u2
  go_enter Tryz.func24, Tryz.ntmps24
  go_wp2_with fail
  obtain ⟨W0, hW0⟩ : ∃ W0, W0 = ((w.alloc (.cells #[.slice A n c, .int .i64 cap, .int .i64 left, .bool false] 24)).alloc (.cells #[.int .i8 3, .string file, .string { data := #[] }, .int .i64 k] 50)).alloc (.cells #[.slice none 0 0, .int .i64 0, .int .i64 0, .bool false] 24) := ⟨_, rfl⟩
  have h0 : V3 24 50 24 #[.slice A n c, .int .i64 cap, .int .i64 left, .bool false] #[.int .i8 3, .string file, .string { data := #[] }, .int .i64 k] #[.slice none 0 0, .int .i64 0, .int .i64 0, .bool false] B A fs w W0 := by rw [hW0]; exact V3.start hs hB
  rw [← hW0]
  clear hW0
  refine (ref_check_any A n c B fs cap left false 0 _ HN.out HC.out h0.s (Nat.le_trans hB h0.b.size) hsm).mono ?_
  rintro e W1 ⟨rfl, hx⟩
  have h1 := h0.next hB hx
  clear hx h0
  obtain ⟨d0, d1, d2, d3, f1⟩ := h1.p.cells4
  obtain ⟨g0, g1, g2, g3, f2⟩ := h1.q.cells4
  obtain ⟨e0, e1, e2, e3, f3⟩ := h1.r.cells4
  have l1 := h1.p.lt
  have l2 := h1.q.lt
  have l3 := h1.r.lt
  go_wp2_with fail
  refine (ref_may_any 3 file { data := #[] } k true _ hf HOP.out).mono ?_
  rintro e W2 ⟨rfl, hx⟩
  have h2 := h1.next hB hx
  clear hx h1 d0 d1 d2 d3 g0 g1 g2 g3 e0 e1 e2 e3 f1 f2 f3 l1 l2 l3
  obtain ⟨d0, d1, d2, d3, f1⟩ := h2.p.cells4
  obtain ⟨g0, g1, g2, g3, f2⟩ := h2.q.cells4
  obtain ⟨e0, e1, e2, e3, f3⟩ := h2.r.cells4
  have l1 := h2.p.lt
  have l2 := h2.q.lt
  have l3 := h2.r.lt
  go_wp2_with fail
  refine (ref_get_any A n c B fs cap left false file { data := #[] } { data := #[] } 0 false _ HG.out HN.out h2.s (Nat.le_trans hB h2.b.size) (by have := HN.out; have := hsm.1; omega)).mono ?_
  rintro e W3 ⟨rfl, hx⟩
  have h3 := h2.next hB hx
  clear hx h2 d0 d1 d2 d3 g0 g1 g2 g3 e0 e1 e2 e3 f1 f2 f3 l1 l2 l3
  obtain ⟨d0, d1, d2, d3, f1⟩ := h3.p.cells4
  obtain ⟨g0, g1, g2, g3, f2⟩ := h3.q.cells4
  obtain ⟨e0, e1, e2, e3, f3⟩ := h3.r.cells4
  have l1 := h3.p.lt
  have l2 := h3.q.lt
  have l3 := h3.r.lt
  go_upto_region 9 with fail
  obtain ⟨W5, hW5⟩ : ∃ W5, W5 = W3.alloc (.cells #[.string { data := #[] }, .string { data := #[] }, .int .i64 0] 48) := ⟨_, rfl⟩
  obtain ⟨g6, hg6⟩ : ∃ g6, g6 = W3.heap.size := ⟨_, rfl⟩
  have h5 := h3.next hB (bel1 W3 #[.string { data := #[] }, .string { data := #[] }, .int .i64 0] 48)
  rw [← hW5] at h5
  have u5 : Var W5 g6 48 #[.string { data := #[] }, .string { data := #[] }, .int .i64 0] := by rw [hW5, hg6]; exact new1 W3 _ _
  have hg6z : w.heap.size + 3 ≤ g6 := by rw [hg6]; exact h3.z
  rw [← hW5, ← hg6]
  clear hW5 hg6 h3 d0 d1 d2 d3 g0 g1 g2 g3 e0 e1 e2 e3 f1 f2 f3 l1 l2 l3
  obtain ⟨d0, d1, d2, d3, f1⟩ := h5.p.cells4
  obtain ⟨g0, g1, g2, g3, f2⟩ := h5.q.cells4
  obtain ⟨e0, e1, e2, e3, f3⟩ := h5.r.cells4
  have l1 := h5.p.lt
  have l2 := h5.q.lt
  have l3 := h5.r.lt
  obtain ⟨i0, i1, i2, f4⟩ := u5.cells3
  have l4 := u5.lt
  go_wp2
  refine bodyPost_ret (v := .tuple #[.agg #[.slice none 0 0, .int .i64 0, .int .i64 0, .bool false], .int .i64 32]) (by simp [results, Tryz.results24, go_sem, e0, e1, e2, e3]) rfl (disk_out rfl (Seen.nil _ _ _) (Nat.le_refl _) h5.r disk_noText (by omega) h5.b)
set_option maxRecDepth 100000 in
set_option maxHeartbeats 2000000 in
theorem rdo_nofile4 (A : Option Addr) (n c B : Nat) (fs : List Fl) (cap left : Int) (down : Bool) (file : ByteArray)  (w : World) (hn : fs.length = n) (hs : Seen w B A (fcells fs)) (hB : B ≤ w.heap.size) (hsm : Small fs) (hnc : n ≤ c) (hf : file.size ≤ 9223372036854775807) (hc : check ⟨fs, cap, left, down⟩ = true) (hop : isOp ⟨4, file, { data := #[] }, 0⟩ = true) (hd : down = false) (hl : left ≠ 0) (hg : GetRes fs file { data := #[] } { data := #[] } 0 false) : Calls Tryz.prog 24 #[.agg #[.slice A n c, .int .i64 cap, .int .i64 left, .bool down], .agg #[.int .i8 4, .string file, .string { data := #[] }, .int .i64 0]] w (DiskRes [] 0 0 false 32 w) := by
  subst hd
  have y0 : (left == 0) = false := by rw [beq_eq_false_iff_ne]; exact hl
  have HG := Lib.hid hg
  clear hg hl
  have HOP := Lib.hid hop
  clear hop
  have HN := Lib.hid hn
  have HC : Hid (code (check ⟨fs, cap, left, false⟩) = 0) := by show _ = _; rw [hc]; rfl
  have _u1 := hnc
  have _u2 := hf
  clear hn hc _u1 _u2
  go_enter Tryz.func24, Tryz.ntmps24
  go_wp2_with fail
  obtain ⟨W0, hW0⟩ : ∃ W0, W0 = ((w.alloc (.cells #[.slice A n c, .int .i64 cap, .int .i64 left, .bool false] 24)).alloc (.cells #[.int .i8 4, .string file, .string { data := #[] }, .int .i64 0] 50)).alloc (.cells #[.slice none 0 0, .int .i64 0, .int .i64 0, .bool false] 24) := ⟨_, rfl⟩
  have h0 : V3 24 50 24 #[.slice A n c, .int .i64 cap, .int .i64 left, .bool false] #[.int .i8 4, .string file, .string { data := #[] }, .int .i64 0] #[.slice none 0 0, .int .i64 0, .int .i64 0, .bool false] B A fs w W0 := by rw [hW0]; exact V3.start hs hB
  rw [← hW0]
  clear hW0
  refine (ref_check_any A n c B fs cap left false 0 _ HN.out HC.out h0.s (Nat.le_trans hB h0.b.size) hsm).mono ?_
  rintro e W1 ⟨rfl, hx⟩
  have h1 := h0.next hB hx
  clear hx h0
  obtain ⟨d0, d1, d2, d3, f1⟩ := h1.p.cells4
  obtain ⟨g0, g1, g2, g3, f2⟩ := h1.q.cells4
  obtain ⟨e0, e1, e2, e3, f3⟩ := h1.r.cells4
  have l1 := h1.p.lt
  have l2 := h1.q.lt
  have l3 := h1.r.lt
  go_wp2_with fail
  refine (ref_may_any 4 file { data := #[] } 0 true _ hf HOP.out).mono ?_
  rintro e W2 ⟨rfl, hx⟩
  have h2 := h1.next hB hx
  clear hx h1 d0 d1 d2 d3 g0 g1 g2 g3 e0 e1 e2 e3 f1 f2 f3 l1 l2 l3
  obtain ⟨d0, d1, d2, d3, f1⟩ := h2.p.cells4
  obtain ⟨g0, g1, g2, g3, f2⟩ := h2.q.cells4
  obtain ⟨e0, e1, e2, e3, f3⟩ := h2.r.cells4
  have l1 := h2.p.lt
  have l2 := h2.q.lt
  have l3 := h2.r.lt
  go_wp2_with fail
  refine (ref_get_any A n c B fs cap left false file { data := #[] } { data := #[] } 0 false _ HG.out HN.out h2.s (Nat.le_trans hB h2.b.size) (by have := HN.out; have := hsm.1; omega)).mono ?_
  rintro e W3 ⟨rfl, hx⟩
  have h3 := h2.next hB hx
  clear hx h2 d0 d1 d2 d3 g0 g1 g2 g3 e0 e1 e2 e3 f1 f2 f3 l1 l2 l3
  obtain ⟨d0, d1, d2, d3, f1⟩ := h3.p.cells4
  obtain ⟨g0, g1, g2, g3, f2⟩ := h3.q.cells4
  obtain ⟨e0, e1, e2, e3, f3⟩ := h3.r.cells4
  have l1 := h3.p.lt
  have l2 := h3.q.lt
  have l3 := h3.r.lt
  go_upto_region 9 with fail
  obtain ⟨W5, hW5⟩ : ∃ W5, W5 = W3.alloc (.cells #[.string { data := #[] }, .string { data := #[] }, .int .i64 0] 48) := ⟨_, rfl⟩
  obtain ⟨g6, hg6⟩ : ∃ g6, g6 = W3.heap.size := ⟨_, rfl⟩
  have h5 := h3.next hB (bel1 W3 #[.string { data := #[] }, .string { data := #[] }, .int .i64 0] 48)
  rw [← hW5] at h5
  have u5 : Var W5 g6 48 #[.string { data := #[] }, .string { data := #[] }, .int .i64 0] := by rw [hW5, hg6]; exact new1 W3 _ _
  have hg6z : w.heap.size + 3 ≤ g6 := by rw [hg6]; exact h3.z
  rw [← hW5, ← hg6]
  clear hW5 hg6 h3 d0 d1 d2 d3 g0 g1 g2 g3 e0 e1 e2 e3 f1 f2 f3 l1 l2 l3
  obtain ⟨d0, d1, d2, d3, f1⟩ := h5.p.cells4
  obtain ⟨g0, g1, g2, g3, f2⟩ := h5.q.cells4
  obtain ⟨e0, e1, e2, e3, f3⟩ := h5.r.cells4
  have l1 := h5.p.lt
  have l2 := h5.q.lt
  have l3 := h5.r.lt
  obtain ⟨i0, i1, i2, f4⟩ := u5.cells3
  have l4 := u5.lt
  go_wp2
  refine bodyPost_ret (v := .tuple #[.agg #[.slice none 0 0, .int .i64 0, .int .i64 0, .bool false], .int .i64 32]) (by simp [results, Tryz.results24, go_sem, e0, e1, e2, e3]) rfl (disk_out rfl (Seen.nil _ _ _) (Nat.le_refl _) h5.r disk_noText (by omega) h5.b)
set_option maxRecDepth 100000 in
set_option maxHeartbeats 2000000 in
theorem rdo_cut (A : Option Addr) (n c B : Nat) (fs : List Fl) (cap left : Int) (down : Bool) (file : ByteArray) (k : Int) (w : World) (hn : fs.length = n) (hs : Seen w B A (fcells fs)) (hB : B ≤ w.heap.size) (hsm : Small fs) (hnc : n ≤ c) (hf : file.size ≤ 9223372036854775807) (hc : check ⟨fs, cap, left, down⟩ = true) (hop : isOp ⟨3, file, { data := #[] }, k⟩ = true) (hd : down = false) (hl : left ≠ 0) (fn fb : ByteArray) (s : Int) (hg : GetRes fs file fn fb s true) (hk : (fb.size : Int) < k) : Calls Tryz.prog 24 #[.agg #[.slice A n c, .int .i64 cap, .int .i64 left, .bool down], .agg #[.int .i8 3, .string file, .string { data := #[] }, .int .i64 k]] w (DiskRes [] 0 0 false 2 w) := by
  subst hd
  have y0 : (left == 0) = false := by rw [beq_eq_false_iff_ne]; exact hl
  have HG := Lib.hid hg
  have t9 : decide ((fb.size : Int) < k) = true := decide_eq_true hk
  clear hg hl
  have HOP := Lib.hid hop
  clear hop
  have HN := Lib.hid hn
  have HC : Hid (code (check ⟨fs, cap, left, false⟩) = 0) := by show _ = _; rw [hc]; rfl
  have _u1 := hnc
  have _u2 := hf
  clear hn hc _u1 _u2
  go_enter Tryz.func24, Tryz.ntmps24
  go_wp2_with fail
  obtain ⟨W0, hW0⟩ : ∃ W0, W0 = ((w.alloc (.cells #[.slice A n c, .int .i64 cap, .int .i64 left, .bool false] 24)).alloc (.cells #[.int .i8 3, .string file, .string { data := #[] }, .int .i64 k] 50)).alloc (.cells #[.slice none 0 0, .int .i64 0, .int .i64 0, .bool false] 24) := ⟨_, rfl⟩
  have h0 : V3 24 50 24 #[.slice A n c, .int .i64 cap, .int .i64 left, .bool false] #[.int .i8 3, .string file, .string { data := #[] }, .int .i64 k] #[.slice none 0 0, .int .i64 0, .int .i64 0, .bool false] B A fs w W0 := by rw [hW0]; exact V3.start hs hB
  rw [← hW0]
  clear hW0
  refine (ref_check_any A n c B fs cap left false 0 _ HN.out HC.out h0.s (Nat.le_trans hB h0.b.size) hsm).mono ?_
  rintro e W1 ⟨rfl, hx⟩
  have h1 := h0.next hB hx
  clear hx h0
  obtain ⟨d0, d1, d2, d3, f1⟩ := h1.p.cells4
  obtain ⟨g0, g1, g2, g3, f2⟩ := h1.q.cells4
  obtain ⟨e0, e1, e2, e3, f3⟩ := h1.r.cells4
  have l1 := h1.p.lt
  have l2 := h1.q.lt
  have l3 := h1.r.lt
  go_wp2_with fail
  refine (ref_may_any 3 file { data := #[] } k true _ hf HOP.out).mono ?_
  rintro e W2 ⟨rfl, hx⟩
  have h2 := h1.next hB hx
  clear hx h1 d0 d1 d2 d3 g0 g1 g2 g3 e0 e1 e2 e3 f1 f2 f3 l1 l2 l3
  obtain ⟨d0, d1, d2, d3, f1⟩ := h2.p.cells4
  obtain ⟨g0, g1, g2, g3, f2⟩ := h2.q.cells4
  obtain ⟨e0, e1, e2, e3, f3⟩ := h2.r.cells4
  have l1 := h2.p.lt
  have l2 := h2.q.lt
  have l3 := h2.r.lt
  go_wp2_with fail
  refine (ref_get_any A n c B fs cap left false file fn fb s true _ HG.out HN.out h2.s (Nat.le_trans hB h2.b.size) (by have := HN.out; have := hsm.1; omega)).mono ?_
  rintro e W3 ⟨rfl, hx⟩
  have h3 := h2.next hB hx
  clear hx h2 d0 d1 d2 d3 g0 g1 g2 g3 e0 e1 e2 e3 f1 f2 f3 l1 l2 l3
  obtain ⟨d0, d1, d2, d3, f1⟩ := h3.p.cells4
  obtain ⟨g0, g1, g2, g3, f2⟩ := h3.q.cells4
  obtain ⟨e0, e1, e2, e3, f3⟩ := h3.r.cells4
  have l1 := h3.p.lt
  have l2 := h3.q.lt
  have l3 := h3.r.lt
  go_upto_region 9 with fail
  obtain ⟨W5, hW5⟩ : ∃ W5, W5 = W3.alloc (.cells #[.string fn, .string fb, .int .i64 s] 48) := ⟨_, rfl⟩
  obtain ⟨g6, hg6⟩ : ∃ g6, g6 = W3.heap.size := ⟨_, rfl⟩
  have h5 := h3.next hB (bel1 W3 #[.string fn, .string fb, .int .i64 s] 48)
  rw [← hW5] at h5
  have u5 : Var W5 g6 48 #[.string fn, .string fb, .int .i64 s] := by rw [hW5, hg6]; exact new1 W3 _ _
  have hg6z : w.heap.size + 3 ≤ g6 := by rw [hg6]; exact h3.z
  rw [← hW5, ← hg6]
  clear hW5 hg6 h3 d0 d1 d2 d3 g0 g1 g2 g3 e0 e1 e2 e3 f1 f2 f3 l1 l2 l3
  obtain ⟨d0, d1, d2, d3, f1⟩ := h5.p.cells4
  obtain ⟨g0, g1, g2, g3, f2⟩ := h5.q.cells4
  obtain ⟨e0, e1, e2, e3, f3⟩ := h5.r.cells4
  have l1 := h5.p.lt
  have l2 := h5.q.lt
  have l3 := h5.r.lt
  obtain ⟨i0, i1, i2, f4⟩ := u5.cells3
  have l4 := u5.lt
  have h6 := h5.set hB 0 (.string file) hg6z
  go_wp2
  refine bodyPost_ret (v := .tuple #[.agg #[.slice none 0 0, .int .i64 0, .int .i64 0, .bool false], .int .i64 2]) (by simp [results, Tryz.results24, go_sem, e0, e1, e2, e3]) rfl (disk_out rfl (Seen.nil _ _ _) (Nat.le_refl _) h6.r disk_noText (by omega) h6.b)
end Go.Proofs.YtpppeadmhfggkaaGreatDoor
