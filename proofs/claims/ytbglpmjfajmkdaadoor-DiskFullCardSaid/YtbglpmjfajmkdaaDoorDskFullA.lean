/-
  The law DiskFull: its walk. Conditions: those that each theorem names.
-/
import Derived.Test.YtbglpmjfajmkdaaDoorDskWakes
import Derived.Test.YtbglpmjfajmkdaaDoorDskLawPlain
namespace Go.Proofs.YtbglpmjfajmkdaaDoor
open Go.RowKit DP

theorem great_small {d : Dk} (h : great d = false) : Small d.fs := by
  unfold great at h
  rw [Bool.or_eq_false_iff] at h
  have h1 := of_decide_eq_false h.1
  refine ⟨by omega, fun f hf => ?_⟩
  have h2 := List.any_eq_false.1 h.2 f hf
  unfold greatF at h2
  simp only [Bool.or_eq_true, decide_eq_true_eq, not_or] at h2
  omega

set_option maxRecDepth 100000 in
set_option maxHeartbeats 2000000 in
theorem full_great (A : Option Addr) (n c : Nat) (fs : List Fl) (cap left : Int) (down : Bool) (name b : ByteArray) (w : World) (hn : fs.length = n) (hs : Seen w w.heap.size A (fcells fs)) (hmax : n ≤ 9223372036854775807) (hsz : ∀ f ∈ fs, f.b.size ≤ 9223372036854775807 ∧ f.n.size ≤ 9223372036854775807) (hnm : name.size ≤ 9223372036854775807) (hbm : b.size ≤ 9223372036854775807) (hG : Glob w) (hgr : great ⟨fs, cap, left, down⟩ = true) :
    Calls Tryd.prog 8 #[.agg #[.slice A n c, .int .i64 cap, .int .i64 left, .bool down], .string name, .string b] w fun e w' => e = .returned (.bool true) ∧ Below w.heap.size w w' := by
  have _u1 := hnm
  have _u2 := hbm
  clear _u1 _u2
  have HGR := Lib.hid hgr
  clear hgr
  have HN := Lib.hid hn
  have HG := Lib.hid hG
  clear hn hG
  go_enter Tryd.func8, Tryd.ntmps8
  go_wp2_with fail
  obtain ⟨W0, hW0⟩ : ∃ W0, W0 = w.alloc (.cells #[.slice A n c, .int .i64 cap, .int .i64 left, .bool down] 24) := ⟨_, rfl⟩
  have v0 : Var W0 w.heap.size 24 #[.slice A n c, .int .i64 cap, .int .i64 left, .bool down] := by rw [hW0]; exact new1 w _ _
  have hb0 : Below w.heap.size w W0 := by rw [hW0]; exact bel1 w _ _
  have hs0 := hs.below hb0
  have hz0 := hb0.size
  have hl0 := v0.lt
  rw [← hW0]
  clear hW0
  obtain ⟨d0, d1, d2, d3, f1⟩ := v0.cells4
  refine (great_any A n c w.heap.size fs cap left down true _ HN.out HGR.out hs0 hb0.size hmax hsz).mono ?_
  rintro e W1 ⟨rfl, hx⟩
  have v1 := v0.below hx v0.lt
  have hb1 := hb0.trans (hx.mono hb0.size)
  have hs1 := hs0.below (hx.mono hb0.size)
  have hz1 := hb1.size
  have hl1 := v1.lt
  clear hx d0 d1 d2 d3 f1 v0 hb0 hs0 hz0 hl0
  obtain ⟨d0, d1, d2, d3, f1⟩ := v1.cells4
  go_wp2_with fail
  refine (wakes_any _ (HG.out.next hb1)).mono ?_
  rintro e W2 ⟨rfl, hx⟩
  have hb2 := hb1.trans (hx.mono hb1.size)
  go_wp2
  go_ret
  exact ⟨rfl, hb2⟩

set_option maxRecDepth 100000 in
set_option maxHeartbeats 2000000 in
theorem full_invalid (A : Option Addr) (n c : Nat) (fs : List Fl) (cap left : Int) (down : Bool) (name b : ByteArray) (w : World) (hn : fs.length = n) (hs : Seen w w.heap.size A (fcells fs)) (hmax : n ≤ 9223372036854775807) (hsz : ∀ f ∈ fs, f.b.size ≤ 9223372036854775807 ∧ f.n.size ≤ 9223372036854775807) (hnm : name.size ≤ 9223372036854775807) (hbm : b.size ≤ 9223372036854775807) (hG : Glob w) (hgr : great ⟨fs, cap, left, down⟩ = false) (hc : check ⟨fs, cap, left, down⟩ = false) :
    Calls Tryd.prog 8 #[.agg #[.slice A n c, .int .i64 cap, .int .i64 left, .bool down], .string name, .string b] w fun e w' => e = .returned (.bool true) ∧ Below w.heap.size w w' := by
  have _u1 := hnm
  have _u2 := hbm
  clear _u1 _u2
  have HGR := Lib.hid hgr
  clear hgr
  have hsm : Small fs := great_small HGR.out
  have HC : Hid (code (check ⟨fs, cap, left, down⟩) = 2) := by show _ = _; rw [hc]; rfl
  clear hc
  have HN := Lib.hid hn
  have HG := Lib.hid hG
  clear hn hG
  go_enter Tryd.func8, Tryd.ntmps8
  go_wp2_with fail
  obtain ⟨W0, hW0⟩ : ∃ W0, W0 = w.alloc (.cells #[.slice A n c, .int .i64 cap, .int .i64 left, .bool down] 24) := ⟨_, rfl⟩
  have v0 : Var W0 w.heap.size 24 #[.slice A n c, .int .i64 cap, .int .i64 left, .bool down] := by rw [hW0]; exact new1 w _ _
  have hb0 : Below w.heap.size w W0 := by rw [hW0]; exact bel1 w _ _
  have hs0 := hs.below hb0
  have hz0 := hb0.size
  have hl0 := v0.lt
  rw [← hW0]
  clear hW0
  obtain ⟨d0, d1, d2, d3, f1⟩ := v0.cells4
  refine (great_any A n c w.heap.size fs cap left down false _ HN.out HGR.out hs0 hb0.size hmax hsz).mono ?_
  rintro e W1 ⟨rfl, hx⟩
  have v1 := v0.below hx v0.lt
  have hb1 := hb0.trans (hx.mono hb0.size)
  have hs1 := hs0.below (hx.mono hb0.size)
  have hz1 := hb1.size
  have hl1 := v1.lt
  clear hx d0 d1 d2 d3 f1 v0 hb0 hs0 hz0 hl0
  obtain ⟨d0, d1, d2, d3, f1⟩ := v1.cells4
  go_wp2_with fail
  refine (check_any A n c w.heap.size fs cap left down 2 _ HN.out HC.out hs1 hb1.size hsm).mono ?_
  rintro e W2 ⟨rfl, hx⟩
  have v2 := v1.below hx v1.lt
  have hb2 := hb1.trans (hx.mono hb1.size)
  have hs2 := hs1.below (hx.mono hb1.size)
  have hz2 := hb2.size
  have hl2 := v2.lt
  clear hx d0 d1 d2 d3 f1 v1 hb1 hs1 hz1 hl1
  obtain ⟨d0, d1, d2, d3, f1⟩ := v2.cells4
  go_wp2_with fail
  refine (wakes_any _ (HG.out.next hb2)).mono ?_
  rintro e W3 ⟨rfl, hx⟩
  have hb3 := hb2.trans (hx.mono hb2.size)
  go_wp2
  go_ret
  exact ⟨rfl, hb3⟩

set_option maxRecDepth 100000 in
set_option maxHeartbeats 2000000 in
theorem full_down (A : Option Addr) (n c : Nat) (fs : List Fl) (cap left : Int) (down : Bool) (name b : ByteArray) (w : World) (hn : fs.length = n) (hs : Seen w w.heap.size A (fcells fs)) (hmax : n ≤ 9223372036854775807) (hsz : ∀ f ∈ fs, f.b.size ≤ 9223372036854775807 ∧ f.n.size ≤ 9223372036854775807) (hnm : name.size ≤ 9223372036854775807) (hbm : b.size ≤ 9223372036854775807) (hG : Glob w) (hgr : great ⟨fs, cap, left, down⟩ = false) (hc : check ⟨fs, cap, left, down⟩ = true) (hd : down = true) :
    Calls Tryd.prog 8 #[.agg #[.slice A n c, .int .i64 cap, .int .i64 left, .bool down], .string name, .string b] w fun e w' => e = .returned (.bool true) ∧ Below w.heap.size w w' := by
  have _u1 := hnm
  have _u2 := hbm
  clear _u1 _u2
  have HGR := Lib.hid hgr
  clear hgr
  have hsm : Small fs := great_small HGR.out
  have HC : Hid (code (check ⟨fs, cap, left, down⟩) = 0) := by show _ = _; rw [hc]; rfl
  clear hc
  subst hd
  have HN := Lib.hid hn
  have HG := Lib.hid hG
  clear hn hG
  go_enter Tryd.func8, Tryd.ntmps8
  go_wp2_with fail
  obtain ⟨W0, hW0⟩ : ∃ W0, W0 = w.alloc (.cells #[.slice A n c, .int .i64 cap, .int .i64 left, .bool true] 24) := ⟨_, rfl⟩
  have v0 : Var W0 w.heap.size 24 #[.slice A n c, .int .i64 cap, .int .i64 left, .bool true] := by rw [hW0]; exact new1 w _ _
  have hb0 : Below w.heap.size w W0 := by rw [hW0]; exact bel1 w _ _
  have hs0 := hs.below hb0
  have hz0 := hb0.size
  have hl0 := v0.lt
  rw [← hW0]
  clear hW0
  obtain ⟨d0, d1, d2, d3, f1⟩ := v0.cells4
  refine (great_any A n c w.heap.size fs cap left true false _ HN.out HGR.out hs0 hb0.size hmax hsz).mono ?_
  rintro e W1 ⟨rfl, hx⟩
  have v1 := v0.below hx v0.lt
  have hb1 := hb0.trans (hx.mono hb0.size)
  have hs1 := hs0.below (hx.mono hb0.size)
  have hz1 := hb1.size
  have hl1 := v1.lt
  clear hx d0 d1 d2 d3 f1 v0 hb0 hs0 hz0 hl0
  obtain ⟨d0, d1, d2, d3, f1⟩ := v1.cells4
  go_wp2_with fail
  refine (check_any A n c w.heap.size fs cap left true 0 _ HN.out HC.out hs1 hb1.size hsm).mono ?_
  rintro e W2 ⟨rfl, hx⟩
  have v2 := v1.below hx v1.lt
  have hb2 := hb1.trans (hx.mono hb1.size)
  have hs2 := hs1.below (hx.mono hb1.size)
  have hz2 := hb2.size
  have hl2 := v2.lt
  clear hx d0 d1 d2 d3 f1 v1 hb1 hs1 hz1 hl1
  obtain ⟨d0, d1, d2, d3, f1⟩ := v2.cells4
  go_wp2_with fail
  refine (wakes_any _ (HG.out.next hb2)).mono ?_
  rintro e W3 ⟨rfl, hx⟩
  have hb3 := hb2.trans (hx.mono hb2.size)
  go_wp2
  go_ret
  exact ⟨rfl, hb3⟩

set_option maxRecDepth 100000 in
set_option maxHeartbeats 2000000 in
theorem full_armed (A : Option Addr) (n c : Nat) (fs : List Fl) (cap left : Int) (down : Bool) (name b : ByteArray) (w : World) (hn : fs.length = n) (hs : Seen w w.heap.size A (fcells fs)) (hmax : n ≤ 9223372036854775807) (hsz : ∀ f ∈ fs, f.b.size ≤ 9223372036854775807 ∧ f.n.size ≤ 9223372036854775807) (hnm : name.size ≤ 9223372036854775807) (hbm : b.size ≤ 9223372036854775807) (hG : Glob w) (hgr : great ⟨fs, cap, left, down⟩ = false) (hc : check ⟨fs, cap, left, down⟩ = true) (hd : down = false) (hl : 0 ≤ left) :
    Calls Tryd.prog 8 #[.agg #[.slice A n c, .int .i64 cap, .int .i64 left, .bool down], .string name, .string b] w fun e w' => e = .returned (.bool true) ∧ Below w.heap.size w w' := by
  have _u1 := hnm
  have _u2 := hbm
  clear _u1 _u2
  have HGR := Lib.hid hgr
  clear hgr
  have hsm : Small fs := great_small HGR.out
  have HC : Hid (code (check ⟨fs, cap, left, down⟩) = 0) := by show _ = _; rw [hc]; rfl
  clear hc
  subst hd
  have HN := Lib.hid hn
  have HG := Lib.hid hG
  clear hn hG
  go_enter Tryd.func8, Tryd.ntmps8
  go_wp2_with fail
  obtain ⟨W0, hW0⟩ : ∃ W0, W0 = w.alloc (.cells #[.slice A n c, .int .i64 cap, .int .i64 left, .bool false] 24) := ⟨_, rfl⟩
  have v0 : Var W0 w.heap.size 24 #[.slice A n c, .int .i64 cap, .int .i64 left, .bool false] := by rw [hW0]; exact new1 w _ _
  have hb0 : Below w.heap.size w W0 := by rw [hW0]; exact bel1 w _ _
  have hs0 := hs.below hb0
  have hz0 := hb0.size
  have hl0 := v0.lt
  rw [← hW0]
  clear hW0
  obtain ⟨d0, d1, d2, d3, f1⟩ := v0.cells4
  refine (great_any A n c w.heap.size fs cap left false false _ HN.out HGR.out hs0 hb0.size hmax hsz).mono ?_
  rintro e W1 ⟨rfl, hx⟩
  have v1 := v0.below hx v0.lt
  have hb1 := hb0.trans (hx.mono hb0.size)
  have hs1 := hs0.below (hx.mono hb0.size)
  have hz1 := hb1.size
  have hl1 := v1.lt
  clear hx d0 d1 d2 d3 f1 v0 hb0 hs0 hz0 hl0
  obtain ⟨d0, d1, d2, d3, f1⟩ := v1.cells4
  go_wp2_with fail
  refine (check_any A n c w.heap.size fs cap left false 0 _ HN.out HC.out hs1 hb1.size hsm).mono ?_
  rintro e W2 ⟨rfl, hx⟩
  have v2 := v1.below hx v1.lt
  have hb2 := hb1.trans (hx.mono hb1.size)
  have hs2 := hs1.below (hx.mono hb1.size)
  have hz2 := hb2.size
  have hl2 := v2.lt
  clear hx d0 d1 d2 d3 f1 v1 hb1 hs1 hz1 hl1
  obtain ⟨d0, d1, d2, d3, f1⟩ := v2.cells4
  go_wp2_with fail
  refine (wakes_any _ (HG.out.next hb2)).mono ?_
  rintro e W3 ⟨rfl, hx⟩
  have hb3 := hb2.trans (hx.mono hb2.size)
  go_wp2
  go_ret
  exact ⟨rfl, hb3⟩

set_option maxRecDepth 100000 in
set_option maxHeartbeats 2000000 in
theorem full_name (A : Option Addr) (n c : Nat) (fs : List Fl) (cap left : Int) (down : Bool) (name b : ByteArray) (w : World) (hn : fs.length = n) (hs : Seen w w.heap.size A (fcells fs)) (hmax : n ≤ 9223372036854775807) (hsz : ∀ f ∈ fs, f.b.size ≤ 9223372036854775807 ∧ f.n.size ≤ 9223372036854775807) (hnm : name.size ≤ 9223372036854775807) (hbm : b.size ≤ 9223372036854775807) (hG : Glob w) (hgr : great ⟨fs, cap, left, down⟩ = false) (hc : check ⟨fs, cap, left, down⟩ = true) (hd : down = false) (hl : left < 0) (hok : okName name = false) :
    Calls Tryd.prog 8 #[.agg #[.slice A n c, .int .i64 cap, .int .i64 left, .bool down], .string name, .string b] w fun e w' => e = .returned (.bool true) ∧ Below w.heap.size w w' := by
  have _u1 := hnm
  have _u2 := hbm
  clear _u1 _u2
  have HNM := Lib.hid hok
  clear hok
  have HGR := Lib.hid hgr
  clear hgr
  have hsm : Small fs := great_small HGR.out
  have HC : Hid (code (check ⟨fs, cap, left, down⟩) = 0) := by show _ = _; rw [hc]; rfl
  clear hc
  have t1 : decide (0 ≤ left) = false := bool_dec _ (by omega)
  subst hd
  have HN := Lib.hid hn
  have HG := Lib.hid hG
  clear hn hG
  go_enter Tryd.func8, Tryd.ntmps8
  go_wp2_with fail
  obtain ⟨W0, hW0⟩ : ∃ W0, W0 = w.alloc (.cells #[.slice A n c, .int .i64 cap, .int .i64 left, .bool false] 24) := ⟨_, rfl⟩
  have v0 : Var W0 w.heap.size 24 #[.slice A n c, .int .i64 cap, .int .i64 left, .bool false] := by rw [hW0]; exact new1 w _ _
  have hb0 : Below w.heap.size w W0 := by rw [hW0]; exact bel1 w _ _
  have hs0 := hs.below hb0
  have hz0 := hb0.size
  have hl0 := v0.lt
  rw [← hW0]
  clear hW0
  obtain ⟨d0, d1, d2, d3, f1⟩ := v0.cells4
  refine (great_any A n c w.heap.size fs cap left false false _ HN.out HGR.out hs0 hb0.size hmax hsz).mono ?_
  rintro e W1 ⟨rfl, hx⟩
  have v1 := v0.below hx v0.lt
  have hb1 := hb0.trans (hx.mono hb0.size)
  have hs1 := hs0.below (hx.mono hb0.size)
  have hz1 := hb1.size
  have hl1 := v1.lt
  clear hx d0 d1 d2 d3 f1 v0 hb0 hs0 hz0 hl0
  obtain ⟨d0, d1, d2, d3, f1⟩ := v1.cells4
  go_wp2_with fail
  refine (check_any A n c w.heap.size fs cap left false 0 _ HN.out HC.out hs1 hb1.size hsm).mono ?_
  rintro e W2 ⟨rfl, hx⟩
  have v2 := v1.below hx v1.lt
  have hb2 := hb1.trans (hx.mono hb1.size)
  have hs2 := hs1.below (hx.mono hb1.size)
  have hz2 := hb2.size
  have hl2 := v2.lt
  clear hx d0 d1 d2 d3 f1 v1 hb1 hs1 hz1 hl1
  obtain ⟨d0, d1, d2, d3, f1⟩ := v2.cells4
  go_wp2_with fail
  refine (name_any name false _ HNM.out hnm).mono ?_
  rintro e W3 ⟨rfl, hx⟩
  have v3 := v2.below hx v2.lt
  have hb3 := hb2.trans (hx.mono hb2.size)
  have hs3 := hs2.below (hx.mono hb2.size)
  have hz3 := hb3.size
  have hl3 := v3.lt
  clear hx d0 d1 d2 d3 f1 v2 hb2 hs2 hz2 hl2
  obtain ⟨d0, d1, d2, d3, f1⟩ := v3.cells4
  go_wp2_with fail
  refine (wakes_any _ (HG.out.next hb3)).mono ?_
  rintro e W4 ⟨rfl, hx⟩
  have hb4 := hb3.trans (hx.mono hb3.size)
  go_wp2
  go_ret
  exact ⟨rfl, hb4⟩

set_option maxRecDepth 100000 in
set_option maxHeartbeats 2000000 in
theorem full_empty (A : Option Addr) (n c : Nat) (fs : List Fl) (cap left : Int) (down : Bool) (name b : ByteArray) (w : World) (hn : fs.length = n) (hs : Seen w w.heap.size A (fcells fs)) (hmax : n ≤ 9223372036854775807) (hsz : ∀ f ∈ fs, f.b.size ≤ 9223372036854775807 ∧ f.n.size ≤ 9223372036854775807) (hnm : name.size ≤ 9223372036854775807) (hbm : b.size ≤ 9223372036854775807) (hG : Glob w) (hgr : great ⟨fs, cap, left, down⟩ = false) (hc : check ⟨fs, cap, left, down⟩ = true) (hd : down = false) (hl : left < 0) (hok : okName name = true) (hb0 : b.size = 0) :
    Calls Tryd.prog 8 #[.agg #[.slice A n c, .int .i64 cap, .int .i64 left, .bool down], .string name, .string b] w fun e w' => e = .returned (.bool true) ∧ Below w.heap.size w w' := by
  have _u1 := hnm
  have _u2 := hbm
  clear _u1 _u2
  have HNM := Lib.hid hok
  clear hok
  have HGR := Lib.hid hgr
  clear hgr
  have hsm : Small fs := great_small HGR.out
  have HC : Hid (code (check ⟨fs, cap, left, down⟩) = 0) := by show _ = _; rw [hc]; rfl
  clear hc
  have t1 : decide (0 ≤ left) = false := bool_dec _ (by omega)
  subst hd
  have HN := Lib.hid hn
  have HG := Lib.hid hG
  clear hn hG
  go_enter Tryd.func8, Tryd.ntmps8
  go_wp2_with fail
  obtain ⟨W0, hW0⟩ : ∃ W0, W0 = w.alloc (.cells #[.slice A n c, .int .i64 cap, .int .i64 left, .bool false] 24) := ⟨_, rfl⟩
  have v0 : Var W0 w.heap.size 24 #[.slice A n c, .int .i64 cap, .int .i64 left, .bool false] := by rw [hW0]; exact new1 w _ _
  have hb0 : Below w.heap.size w W0 := by rw [hW0]; exact bel1 w _ _
  have hs0 := hs.below hb0
  have hz0 := hb0.size
  have hl0 := v0.lt
  rw [← hW0]
  clear hW0
  obtain ⟨d0, d1, d2, d3, f1⟩ := v0.cells4
  refine (great_any A n c w.heap.size fs cap left false false _ HN.out HGR.out hs0 hb0.size hmax hsz).mono ?_
  rintro e W1 ⟨rfl, hx⟩
  have v1 := v0.below hx v0.lt
  have hb1 := hb0.trans (hx.mono hb0.size)
  have hs1 := hs0.below (hx.mono hb0.size)
  have hz1 := hb1.size
  have hl1 := v1.lt
  clear hx d0 d1 d2 d3 f1 v0 hb0 hs0 hz0 hl0
  obtain ⟨d0, d1, d2, d3, f1⟩ := v1.cells4
  go_wp2_with fail
  refine (check_any A n c w.heap.size fs cap left false 0 _ HN.out HC.out hs1 hb1.size hsm).mono ?_
  rintro e W2 ⟨rfl, hx⟩
  have v2 := v1.below hx v1.lt
  have hb2 := hb1.trans (hx.mono hb1.size)
  have hs2 := hs1.below (hx.mono hb1.size)
  have hz2 := hb2.size
  have hl2 := v2.lt
  clear hx d0 d1 d2 d3 f1 v1 hb1 hs1 hz1 hl1
  obtain ⟨d0, d1, d2, d3, f1⟩ := v2.cells4
  go_wp2_with fail
  refine (name_any name true _ HNM.out hnm).mono ?_
  rintro e W3 ⟨rfl, hx⟩
  have v3 := v2.below hx v2.lt
  have hb3 := hb2.trans (hx.mono hb2.size)
  have hs3 := hs2.below (hx.mono hb2.size)
  have hz3 := hb3.size
  have hl3 := v3.lt
  clear hx d0 d1 d2 d3 f1 v2 hb2 hs2 hz2 hl2
  obtain ⟨d0, d1, d2, d3, f1⟩ := v3.cells4
  go_wp2_with fail
  refine (wakes_any _ (HG.out.next hb3)).mono ?_
  rintro e W4 ⟨rfl, hx⟩
  have hb4 := hb3.trans (hx.mono hb3.size)
  go_wp2
  go_ret
  exact ⟨rfl, hb4⟩

set_option maxRecDepth 100000 in
set_option maxHeartbeats 2000000 in
theorem full_long (A : Option Addr) (n c : Nat) (fs : List Fl) (cap left : Int) (down : Bool) (name b : ByteArray) (w : World) (hn : fs.length = n) (hs : Seen w w.heap.size A (fcells fs)) (hmax : n ≤ 9223372036854775807) (hsz : ∀ f ∈ fs, f.b.size ≤ 9223372036854775807 ∧ f.n.size ≤ 9223372036854775807) (hnm : name.size ≤ 9223372036854775807) (hbm : b.size ≤ 9223372036854775807) (hG : Glob w) (hgr : great ⟨fs, cap, left, down⟩ = false) (hc : check ⟨fs, cap, left, down⟩ = true) (hd : down = false) (hl : left < 0) (hok : okName name = true) (hb0 : 131072 < b.size) :
    Calls Tryd.prog 8 #[.agg #[.slice A n c, .int .i64 cap, .int .i64 left, .bool down], .string name, .string b] w fun e w' => e = .returned (.bool true) ∧ Below w.heap.size w w' := by
  have _u1 := hnm
  have _u2 := hbm
  clear _u1 _u2
  have HNM := Lib.hid hok
  clear hok
  have t2 : ((b.size : Int) == 0) = false := by rw [beq_eq_false_iff_ne]; omega
  have HGR := Lib.hid hgr
  clear hgr
  have hsm : Small fs := great_small HGR.out
  have HC : Hid (code (check ⟨fs, cap, left, down⟩) = 0) := by show _ = _; rw [hc]; rfl
  clear hc
  have t1 : decide (0 ≤ left) = false := bool_dec _ (by omega)
  subst hd
  have HN := Lib.hid hn
  have HG := Lib.hid hG
  clear hn hG
  go_enter Tryd.func8, Tryd.ntmps8
  go_wp2_with fail
  obtain ⟨W0, hW0⟩ : ∃ W0, W0 = w.alloc (.cells #[.slice A n c, .int .i64 cap, .int .i64 left, .bool false] 24) := ⟨_, rfl⟩
  have v0 : Var W0 w.heap.size 24 #[.slice A n c, .int .i64 cap, .int .i64 left, .bool false] := by rw [hW0]; exact new1 w _ _
  have hb0 : Below w.heap.size w W0 := by rw [hW0]; exact bel1 w _ _
  have hs0 := hs.below hb0
  have hz0 := hb0.size
  have hl0 := v0.lt
  rw [← hW0]
  clear hW0
  obtain ⟨d0, d1, d2, d3, f1⟩ := v0.cells4
  refine (great_any A n c w.heap.size fs cap left false false _ HN.out HGR.out hs0 hb0.size hmax hsz).mono ?_
  rintro e W1 ⟨rfl, hx⟩
  have v1 := v0.below hx v0.lt
  have hb1 := hb0.trans (hx.mono hb0.size)
  have hs1 := hs0.below (hx.mono hb0.size)
  have hz1 := hb1.size
  have hl1 := v1.lt
  clear hx d0 d1 d2 d3 f1 v0 hb0 hs0 hz0 hl0
  obtain ⟨d0, d1, d2, d3, f1⟩ := v1.cells4
  go_wp2_with fail
  refine (check_any A n c w.heap.size fs cap left false 0 _ HN.out HC.out hs1 hb1.size hsm).mono ?_
  rintro e W2 ⟨rfl, hx⟩
  have v2 := v1.below hx v1.lt
  have hb2 := hb1.trans (hx.mono hb1.size)
  have hs2 := hs1.below (hx.mono hb1.size)
  have hz2 := hb2.size
  have hl2 := v2.lt
  clear hx d0 d1 d2 d3 f1 v1 hb1 hs1 hz1 hl1
  obtain ⟨d0, d1, d2, d3, f1⟩ := v2.cells4
  go_wp2_with fail
  refine (name_any name true _ HNM.out hnm).mono ?_
  rintro e W3 ⟨rfl, hx⟩
  have v3 := v2.below hx v2.lt
  have hb3 := hb2.trans (hx.mono hb2.size)
  have hs3 := hs2.below (hx.mono hb2.size)
  have hz3 := hb3.size
  have hl3 := v3.lt
  clear hx d0 d1 d2 d3 f1 v2 hb2 hs2 hz2 hl2
  obtain ⟨d0, d1, d2, d3, f1⟩ := v3.cells4
  go_wp2_with fail
  refine (wakes_any _ (HG.out.next hb3)).mono ?_
  rintro e W4 ⟨rfl, hx⟩
  have hb4 := hb3.trans (hx.mono hb3.size)
  go_wp2
  go_ret
  exact ⟨rfl, hb4⟩

end Go.Proofs.YtbglpmjfajmkdaaDoor
