/-
  Contracts of isOperation and changed: what each returns and what it does to memory. Conditions: those that each theorem names.
-/
import Derived.Test.YtpppeadmhfggkaaGreatDoorDskPlace
namespace Go.Proofs.YtpppeadmhfggkaaGreatDoor
open Go.RowKit DP

theorem cat_none (a : ByteArray) : a ++ ({ data := #[] } : ByteArray) = a := by
  apply ByteArray.ext; simp
theorem none_cat (a : ByteArray) : ({ data := #[] } : ByteArray) ++ a = a := by
  apply ByteArray.ext; simp
theorem cut_none (k : Nat) : ({ data := #[] } : ByteArray).extract 0 k = { data := #[] } := by
  apply ByteArray.ext; simp
theorem none_of {a : ByteArray} (h : a.size = 0) : a = { data := #[] } := eq_none.2 h

set_option maxRecDepth 100000 in
set_option maxHeartbeats 400000 in
theorem changed0 (fn fb wf wb : ByteArray) (fs n : Int) (w : World) (h1 : fb.size ≤ 1000000) (h2 : wb.size ≤ 1000000) :
    Calls Tryz.prog 59 #[.agg #[.string fn, .string fb, .int .i64 fs], .agg #[.int .i8 0, .string wf, .string wb, .int .i64 n]] w fun e w' => e = .returned (.agg #[.string fn, .string (fb ++ wb), .int .i64 fs]) ∧ Below w.heap.size w w' := by
  go_enter Tryz.func59, Tryz.ntmps59
  go_wp2
  refine bodyPost_ret (v := .agg #[.string fn, .string (fb ++ wb), .int .i64 fs]) (by simp [results, Tryz.results59, go_sem]) rfl ⟨rfl, bel3 _ _ _ _ _ _ _⟩
set_option maxRecDepth 100000 in
set_option maxHeartbeats 400000 in
theorem changed1 (fn fb wf : ByteArray) (fs n : Int) (w : World) (h1 : fb.size ≤ 1000000) :
    Calls Tryz.prog 59 #[.agg #[.string fn, .string fb, .int .i64 fs], .agg #[.int .i8 1, .string wf, .string { data := #[] }, .int .i64 n]] w fun e w' => e = .returned (.agg #[.string fn, .string fb, .int .i64 (fb.size : Int)]) ∧ Below w.heap.size w w' := by
  go_enter Tryz.func59, Tryz.ntmps59
  go_wp2
  refine bodyPost_ret (v := .agg #[.string fn, .string fb, .int .i64 (fb.size : Int)]) (by simp [results, Tryz.results59, go_sem, cat_none]) rfl ⟨rfl, bel3 _ _ _ _ _ _ _⟩
set_option maxRecDepth 100000 in
set_option maxHeartbeats 400000 in
theorem changed2 (fn fb wf wb : ByteArray) (fs : Int) (w : World) (h2 : wb.size ≤ 1000000) :
    Calls Tryz.prog 59 #[.agg #[.string fn, .string fb, .int .i64 fs], .agg #[.int .i8 2, .string wf, .string wb, .int .i64 0]] w fun e w' => e = .returned (.agg #[.string fn, .string wb, .int .i64 (wb.size : Int)]) ∧ Below w.heap.size w w' := by
  go_enter Tryz.func59, Tryz.ntmps59
  go_wp2
  refine bodyPost_ret (v := .agg #[.string fn, .string wb, .int .i64 (wb.size : Int)]) (by simp [results, Tryz.results59, go_sem]) rfl ⟨rfl, bel3 _ _ _ _ _ _ _⟩
set_option maxRecDepth 100000 in
set_option maxHeartbeats 400000 in
theorem changed3 (fn fb wf : ByteArray) (fs : Int) (n : Nat) (w : World) (h1 : fb.size ≤ 1000000) (h2 : n ≤ fb.size) :
    Calls Tryz.prog 59 #[.agg #[.string fn, .string fb, .int .i64 fs], .agg #[.int .i8 3, .string wf, .string { data := #[] }, .int .i64 (n : Int)]] w fun e w' => e = .returned (.agg #[.string fn, .string (fb.extract 0 n), .int .i64 (n : Int)]) ∧ Below w.heap.size w w' := by
  go_enter Tryz.func59, Tryz.ntmps59
  go_wp2
  refine bodyPost_ret (v := .agg #[.string fn, .string (fb.extract 0 n), .int .i64 (n : Int)]) (by simp [results, Tryz.results59, go_sem, cat_none]) rfl ⟨rfl, bel3 _ _ _ _ _ _ _⟩
set_option maxRecDepth 100000 in
set_option maxHeartbeats 400000 in
theorem changed4 (fn fb wf : ByteArray) (fs : Int) (w : World)  :
    Calls Tryz.prog 59 #[.agg #[.string fn, .string fb, .int .i64 fs], .agg #[.int .i8 4, .string wf, .string { data := #[] }, .int .i64 0]] w fun e w' => e = .returned (.agg #[.string fn, .string { data := #[] }, .int .i64 0]) ∧ Below w.heap.size w w' := by
  go_enter Tryz.func59, Tryz.ntmps59
  go_wp2
  refine bodyPost_ret (v := .agg #[.string fn, .string { data := #[] }, .int .i64 0]) (by simp [results, Tryz.results59, go_sem]) rfl ⟨rfl, bel3 _ _ _ _ _ _ _⟩

/-! ### isOperation -/
set_option maxRecDepth 100000 in
set_option maxHeartbeats 400000 in
theorem isop_name (op : Int) (file b : ByteArray) (n : Int) (w : World) (hf : file.size ≤ 9223372036854775807) (hnm : okName file = false)  :
    Calls Tryz.prog 57 #[.agg #[.int .i8 op, .string file, .string b, .int .i64 n]] w fun e w' => e = .returned (.bool false) ∧ Below w.heap.size w w' := by
  have HNM := Lib.hid hnm
  clear hnm
  go_enter Tryz.func57, Tryz.ntmps57
  go_wp2_with (go_at_call 72; refine (name_any file false _ HNM.out hf).mono ?_; rintro e w3 ⟨rfl, hb3⟩; obtain ⟨hc3, hf3⟩ := bcell hb3)
  go_ret
  exact ⟨rfl, ((Below.refl _ _).alloc (Nat.le_refl _) _).trans (hb3.mono (by simp))⟩
set_option maxRecDepth 100000 in
set_option maxHeartbeats 400000 in
theorem isop_low (op : Int) (file b : ByteArray) (n : Int) (w : World) (hf : file.size ≤ 9223372036854775807) (hnm : okName file = true) (h : n < 0) :
    Calls Tryz.prog 57 #[.agg #[.int .i8 op, .string file, .string b, .int .i64 n]] w fun e w' => e = .returned (.bool false) ∧ Below w.heap.size w w' := by
  have HNM := Lib.hid hnm
  clear hnm
  go_enter Tryz.func57, Tryz.ntmps57
  go_wp2_with (go_at_call 72; refine (name_any file true _ HNM.out hf).mono ?_; rintro e w3 ⟨rfl, hb3⟩; obtain ⟨hc3, hf3⟩ := bcell hb3)
  go_ret
  exact ⟨rfl, ((Below.refl _ _).alloc (Nat.le_refl _) _).trans (hb3.mono (by simp))⟩
set_option maxRecDepth 100000 in
set_option maxHeartbeats 400000 in
theorem isop_put0_yes (file b : ByteArray) (w : World) (hf : file.size ≤ 9223372036854775807) (hnm : okName file = true) (hb : 0 < b.size) :
    Calls Tryz.prog 57 #[.agg #[.int .i8 0, .string file, .string b, .int .i64 0]] w fun e w' => e = .returned (.bool true) ∧ Below w.heap.size w w' := by
  have HNM := Lib.hid hnm
  clear hnm
  obtain ⟨z1, z2⟩ := full_ways hb
  go_enter Tryz.func57, Tryz.ntmps57
  go_wp2_with (go_at_call 72; refine (name_any file true _ HNM.out hf).mono ?_; rintro e w3 ⟨rfl, hb3⟩; obtain ⟨hc3, hf3⟩ := bcell hb3)
  go_ret
  exact ⟨rfl, ((Below.refl _ _).alloc (Nat.le_refl _) _).trans (hb3.mono (by simp))⟩
set_option maxRecDepth 100000 in
set_option maxHeartbeats 400000 in
theorem isop_put0_n (file b : ByteArray) (n : Int) (w : World) (hf : file.size ≤ 9223372036854775807) (hnm : okName file = true) (hb : 0 < b.size) (h : 0 < n) :
    Calls Tryz.prog 57 #[.agg #[.int .i8 0, .string file, .string b, .int .i64 n]] w fun e w' => e = .returned (.bool false) ∧ Below w.heap.size w w' := by
  have HNM := Lib.hid hnm
  clear hnm
  obtain ⟨z1, z2⟩ := full_ways hb
  have z3 : (n == 0) = false := by rw [beq_eq_false_iff_ne]; omega
  go_enter Tryz.func57, Tryz.ntmps57
  go_wp2_with (go_at_call 72; refine (name_any file true _ HNM.out hf).mono ?_; rintro e w3 ⟨rfl, hb3⟩; obtain ⟨hc3, hf3⟩ := bcell hb3)
  go_ret
  exact ⟨rfl, ((Below.refl _ _).alloc (Nat.le_refl _) _).trans (hb3.mono (by simp))⟩
set_option maxRecDepth 100000 in
set_option maxHeartbeats 400000 in
theorem isop_put0_none (file : ByteArray) (n : Int) (w : World) (hf : file.size ≤ 9223372036854775807) (hnm : okName file = true) (h : 0 ≤ n) :
    Calls Tryz.prog 57 #[.agg #[.int .i8 0, .string file, .string { data := #[] }, .int .i64 n]] w fun e w' => e = .returned (.bool false) ∧ Below w.heap.size w w' := by
  have HNM := Lib.hid hnm
  clear hnm
  have z1 := bare_toList
  unfold none_ at z1
  go_enter Tryz.func57, Tryz.ntmps57
  go_wp2_with (go_at_call 72; refine (name_any file true _ HNM.out hf).mono ?_; rintro e w3 ⟨rfl, hb3⟩; obtain ⟨hc3, hf3⟩ := bcell hb3)
  go_ret
  exact ⟨rfl, ((Below.refl _ _).alloc (Nat.le_refl _) _).trans (hb3.mono (by simp))⟩
set_option maxRecDepth 100000 in
set_option maxHeartbeats 400000 in
theorem isop_put2_yes (file b : ByteArray) (w : World) (hf : file.size ≤ 9223372036854775807) (hnm : okName file = true) (hb : 0 < b.size) :
    Calls Tryz.prog 57 #[.agg #[.int .i8 2, .string file, .string b, .int .i64 0]] w fun e w' => e = .returned (.bool true) ∧ Below w.heap.size w w' := by
  have HNM := Lib.hid hnm
  clear hnm
  obtain ⟨z1, z2⟩ := full_ways hb
  go_enter Tryz.func57, Tryz.ntmps57
  go_wp2_with (go_at_call 72; refine (name_any file true _ HNM.out hf).mono ?_; rintro e w3 ⟨rfl, hb3⟩; obtain ⟨hc3, hf3⟩ := bcell hb3)
  go_ret
  exact ⟨rfl, ((Below.refl _ _).alloc (Nat.le_refl _) _).trans (hb3.mono (by simp))⟩
set_option maxRecDepth 100000 in
set_option maxHeartbeats 400000 in
theorem isop_put2_n (file b : ByteArray) (n : Int) (w : World) (hf : file.size ≤ 9223372036854775807) (hnm : okName file = true) (hb : 0 < b.size) (h : 0 < n) :
    Calls Tryz.prog 57 #[.agg #[.int .i8 2, .string file, .string b, .int .i64 n]] w fun e w' => e = .returned (.bool false) ∧ Below w.heap.size w w' := by
  have HNM := Lib.hid hnm
  clear hnm
  obtain ⟨z1, z2⟩ := full_ways hb
  have z3 : (n == 0) = false := by rw [beq_eq_false_iff_ne]; omega
  go_enter Tryz.func57, Tryz.ntmps57
  go_wp2_with (go_at_call 72; refine (name_any file true _ HNM.out hf).mono ?_; rintro e w3 ⟨rfl, hb3⟩; obtain ⟨hc3, hf3⟩ := bcell hb3)
  go_ret
  exact ⟨rfl, ((Below.refl _ _).alloc (Nat.le_refl _) _).trans (hb3.mono (by simp))⟩
set_option maxRecDepth 100000 in
set_option maxHeartbeats 400000 in
theorem isop_put2_none (file : ByteArray) (n : Int) (w : World) (hf : file.size ≤ 9223372036854775807) (hnm : okName file = true) (h : 0 ≤ n) :
    Calls Tryz.prog 57 #[.agg #[.int .i8 2, .string file, .string { data := #[] }, .int .i64 n]] w fun e w' => e = .returned (.bool false) ∧ Below w.heap.size w w' := by
  have HNM := Lib.hid hnm
  clear hnm
  have z1 := bare_toList
  unfold none_ at z1
  go_enter Tryz.func57, Tryz.ntmps57
  go_wp2_with (go_at_call 72; refine (name_any file true _ HNM.out hf).mono ?_; rintro e w3 ⟨rfl, hb3⟩; obtain ⟨hc3, hf3⟩ := bcell hb3)
  go_ret
  exact ⟨rfl, ((Below.refl _ _).alloc (Nat.le_refl _) _).trans (hb3.mono (by simp))⟩
set_option maxRecDepth 100000 in
set_option maxHeartbeats 400000 in
theorem isop_del1_yes (file : ByteArray) (w : World) (hf : file.size ≤ 9223372036854775807) (hnm : okName file = true)  :
    Calls Tryz.prog 57 #[.agg #[.int .i8 1, .string file, .string { data := #[] }, .int .i64 0]] w fun e w' => e = .returned (.bool true) ∧ Below w.heap.size w w' := by
  have HNM := Lib.hid hnm
  clear hnm
  have z1 := bare_toList
  unfold none_ at z1
  go_enter Tryz.func57, Tryz.ntmps57
  go_wp2_with (go_at_call 72; refine (name_any file true _ HNM.out hf).mono ?_; rintro e w3 ⟨rfl, hb3⟩; obtain ⟨hc3, hf3⟩ := bcell hb3)
  go_ret
  exact ⟨rfl, ((Below.refl _ _).alloc (Nat.le_refl _) _).trans (hb3.mono (by simp))⟩
set_option maxRecDepth 100000 in
set_option maxHeartbeats 400000 in
theorem isop_del1_full (file b : ByteArray) (w : World) (hf : file.size ≤ 9223372036854775807) (hnm : okName file = true) (hb : 0 < b.size) :
    Calls Tryz.prog 57 #[.agg #[.int .i8 1, .string file, .string b, .int .i64 0]] w fun e w' => e = .returned (.bool false) ∧ Below w.heap.size w w' := by
  have HNM := Lib.hid hnm
  clear hnm
  obtain ⟨z1, z2⟩ := full_ways hb
  go_enter Tryz.func57, Tryz.ntmps57
  go_wp2_with (go_at_call 72; refine (name_any file true _ HNM.out hf).mono ?_; rintro e w3 ⟨rfl, hb3⟩; obtain ⟨hc3, hf3⟩ := bcell hb3)
  go_ret
  exact ⟨rfl, ((Below.refl _ _).alloc (Nat.le_refl _) _).trans (hb3.mono (by simp))⟩
set_option maxRecDepth 100000 in
set_option maxHeartbeats 400000 in
theorem isop_del1_n (file b : ByteArray) (n : Int) (w : World) (hf : file.size ≤ 9223372036854775807) (hnm : okName file = true) (h : 0 < n) :
    Calls Tryz.prog 57 #[.agg #[.int .i8 1, .string file, .string b, .int .i64 n]] w fun e w' => e = .returned (.bool false) ∧ Below w.heap.size w w' := by
  have HNM := Lib.hid hnm
  clear hnm
  have z3 : (n == 0) = false := by rw [beq_eq_false_iff_ne]; omega
  have z4 : (n != 0) = true := by simp; omega
  go_enter Tryz.func57, Tryz.ntmps57
  go_wp2_with (go_at_call 72; refine (name_any file true _ HNM.out hf).mono ?_; rintro e w3 ⟨rfl, hb3⟩; obtain ⟨hc3, hf3⟩ := bcell hb3)
  go_ret
  exact ⟨rfl, ((Below.refl _ _).alloc (Nat.le_refl _) _).trans (hb3.mono (by simp))⟩
set_option maxRecDepth 100000 in
set_option maxHeartbeats 400000 in
theorem isop_del4_yes (file : ByteArray) (w : World) (hf : file.size ≤ 9223372036854775807) (hnm : okName file = true)  :
    Calls Tryz.prog 57 #[.agg #[.int .i8 4, .string file, .string { data := #[] }, .int .i64 0]] w fun e w' => e = .returned (.bool true) ∧ Below w.heap.size w w' := by
  have HNM := Lib.hid hnm
  clear hnm
  have z1 := bare_toList
  unfold none_ at z1
  go_enter Tryz.func57, Tryz.ntmps57
  go_wp2_with (go_at_call 72; refine (name_any file true _ HNM.out hf).mono ?_; rintro e w3 ⟨rfl, hb3⟩; obtain ⟨hc3, hf3⟩ := bcell hb3)
  go_ret
  exact ⟨rfl, ((Below.refl _ _).alloc (Nat.le_refl _) _).trans (hb3.mono (by simp))⟩
set_option maxRecDepth 100000 in
set_option maxHeartbeats 400000 in
theorem isop_del4_full (file b : ByteArray) (w : World) (hf : file.size ≤ 9223372036854775807) (hnm : okName file = true) (hb : 0 < b.size) :
    Calls Tryz.prog 57 #[.agg #[.int .i8 4, .string file, .string b, .int .i64 0]] w fun e w' => e = .returned (.bool false) ∧ Below w.heap.size w w' := by
  have HNM := Lib.hid hnm
  clear hnm
  obtain ⟨z1, z2⟩ := full_ways hb
  go_enter Tryz.func57, Tryz.ntmps57
  go_wp2_with (go_at_call 72; refine (name_any file true _ HNM.out hf).mono ?_; rintro e w3 ⟨rfl, hb3⟩; obtain ⟨hc3, hf3⟩ := bcell hb3)
  go_ret
  exact ⟨rfl, ((Below.refl _ _).alloc (Nat.le_refl _) _).trans (hb3.mono (by simp))⟩
set_option maxRecDepth 100000 in
set_option maxHeartbeats 400000 in
theorem isop_del4_n (file b : ByteArray) (n : Int) (w : World) (hf : file.size ≤ 9223372036854775807) (hnm : okName file = true) (h : 0 < n) :
    Calls Tryz.prog 57 #[.agg #[.int .i8 4, .string file, .string b, .int .i64 n]] w fun e w' => e = .returned (.bool false) ∧ Below w.heap.size w w' := by
  have HNM := Lib.hid hnm
  clear hnm
  have z3 : (n == 0) = false := by rw [beq_eq_false_iff_ne]; omega
  have z4 : (n != 0) = true := by simp; omega
  go_enter Tryz.func57, Tryz.ntmps57
  go_wp2_with (go_at_call 72; refine (name_any file true _ HNM.out hf).mono ?_; rintro e w3 ⟨rfl, hb3⟩; obtain ⟨hc3, hf3⟩ := bcell hb3)
  go_ret
  exact ⟨rfl, ((Below.refl _ _).alloc (Nat.le_refl _) _).trans (hb3.mono (by simp))⟩
set_option maxRecDepth 100000 in
set_option maxHeartbeats 400000 in
theorem isop_cut_yes (file : ByteArray) (n : Int) (w : World) (hf : file.size ≤ 9223372036854775807) (hnm : okName file = true) (h : 0 ≤ n) :
    Calls Tryz.prog 57 #[.agg #[.int .i8 3, .string file, .string { data := #[] }, .int .i64 n]] w fun e w' => e = .returned (.bool true) ∧ Below w.heap.size w w' := by
  have HNM := Lib.hid hnm
  clear hnm
  have z1 := bare_toList
  unfold none_ at z1
  go_enter Tryz.func57, Tryz.ntmps57
  go_wp2_with (go_at_call 72; refine (name_any file true _ HNM.out hf).mono ?_; rintro e w3 ⟨rfl, hb3⟩; obtain ⟨hc3, hf3⟩ := bcell hb3)
  go_ret
  exact ⟨rfl, ((Below.refl _ _).alloc (Nat.le_refl _) _).trans (hb3.mono (by simp))⟩
set_option maxRecDepth 100000 in
set_option maxHeartbeats 400000 in
theorem isop_cut_full (file b : ByteArray) (n : Int) (w : World) (hf : file.size ≤ 9223372036854775807) (hnm : okName file = true) (h : 0 ≤ n) (hb : 0 < b.size) :
    Calls Tryz.prog 57 #[.agg #[.int .i8 3, .string file, .string b, .int .i64 n]] w fun e w' => e = .returned (.bool false) ∧ Below w.heap.size w w' := by
  have HNM := Lib.hid hnm
  clear hnm
  obtain ⟨z1, z2⟩ := full_ways hb
  go_enter Tryz.func57, Tryz.ntmps57
  go_wp2_with (go_at_call 72; refine (name_any file true _ HNM.out hf).mono ?_; rintro e w3 ⟨rfl, hb3⟩; obtain ⟨hc3, hf3⟩ := bcell hb3)
  go_ret
  exact ⟨rfl, ((Below.refl _ _).alloc (Nat.le_refl _) _).trans (hb3.mono (by simp))⟩
set_option maxRecDepth 100000 in
set_option maxHeartbeats 400000 in
theorem isop_else (op : Int) (file b : ByteArray) (n : Int) (w : World) (hf : file.size ≤ 9223372036854775807) (hnm : okName file = true) (h : 0 ≤ n) (ho : op < 0 ∨ 4 < op) :
    Calls Tryz.prog 57 #[.agg #[.int .i8 op, .string file, .string b, .int .i64 n]] w fun e w' => e = .returned (.bool false) ∧ Below w.heap.size w w' := by
  have HNM := Lib.hid hnm
  clear hnm
  have y0 : (op == 0) = false := by rw [beq_eq_false_iff_ne]; omega
  have y1 : (op == 1) = false := by rw [beq_eq_false_iff_ne]; omega
  have y2 : (op == 2) = false := by rw [beq_eq_false_iff_ne]; omega
  have y3 : (op == 3) = false := by rw [beq_eq_false_iff_ne]; omega
  have y4 : (op == 4) = false := by rw [beq_eq_false_iff_ne]; omega
  go_enter Tryz.func57, Tryz.ntmps57
  go_wp2_with (go_at_call 72; refine (name_any file true _ HNM.out hf).mono ?_; rintro e w3 ⟨rfl, hb3⟩; obtain ⟨hc3, hf3⟩ := bcell hb3)
  go_ret
  exact ⟨rfl, ((Below.refl _ _).alloc (Nat.le_refl _) _).trans (hb3.mono (by simp))⟩

theorem isop_any (op : Int) (file b : ByteArray) (n : Int) (r : Bool) (w : World) (hf : file.size ≤ 9223372036854775807) (hr : isOp ⟨op, file, b, n⟩ = r) :
    Calls Tryz.prog 57 #[.agg #[.int .i8 op, .string file, .string b, .int .i64 n]] w fun e w' => e = .returned (.bool r) ∧ Below w.heap.size w w' := by
  unfold isOp at hr
  simp only at hr
  cases hnm : okName file
  · rw [hnm, Bool.false_and, Bool.false_and] at hr; subst hr
    exact isop_name op file b n w hf hnm
  rw [hnm, Bool.true_and] at hr
  by_cases hn : n < 0
  · rw [decide_eq_false (show ¬ 0 ≤ n by omega), Bool.false_and] at hr; subst hr
    exact isop_low op file b n w hf hnm hn
  rw [decide_eq_true (show 0 ≤ n by omega), Bool.true_and] at hr
  have hb : b.size = 0 ∨ 0 < b.size := by omega
  have h0 : n = 0 ∨ 0 < n := by omega
  have ho : op = 0 ∨ op = 2 ∨ op = 1 ∨ op = 4 ∨ op = 3 ∨ (op < 0 ∨ 4 < op) := by omega
  rcases ho with rfl | rfl | rfl | rfl | rfl | ho
  · rw [if_pos (.inl rfl)] at hr
    rcases hb with hb | hb
    · rw [decide_eq_false (by omega)] at hr; subst hr; rw [none_of hb]
      exact isop_put0_none file n w hf hnm (by omega)
    · rcases h0 with rfl | h0
      · rw [decide_eq_true ⟨hb, rfl⟩] at hr; subst hr
        exact isop_put0_yes file b w hf hnm hb
      · rw [decide_eq_false (by omega)] at hr; subst hr
        exact isop_put0_n file b n w hf hnm hb h0
  · rw [if_pos (.inr rfl)] at hr
    rcases hb with hb | hb
    · rw [decide_eq_false (by omega)] at hr; subst hr; rw [none_of hb]
      exact isop_put2_none file n w hf hnm (by omega)
    · rcases h0 with rfl | h0
      · rw [decide_eq_true ⟨hb, rfl⟩] at hr; subst hr
        exact isop_put2_yes file b w hf hnm hb
      · rw [decide_eq_false (by omega)] at hr; subst hr
        exact isop_put2_n file b n w hf hnm hb h0
  · rw [if_neg (by omega), if_pos (.inl rfl)] at hr
    rcases h0 with rfl | h0
    · rcases hb with hb | hb
      · rw [decide_eq_true ⟨hb, rfl⟩] at hr; subst hr; rw [none_of hb]
        exact isop_del1_yes file w hf hnm
      · rw [decide_eq_false (by omega)] at hr; subst hr
        exact isop_del1_full file b w hf hnm hb
    · rw [decide_eq_false (by omega)] at hr; subst hr
      exact isop_del1_n file b n w hf hnm h0
  · rw [if_neg (by omega), if_pos (.inr rfl)] at hr
    rcases h0 with rfl | h0
    · rcases hb with hb | hb
      · rw [decide_eq_true ⟨hb, rfl⟩] at hr; subst hr; rw [none_of hb]
        exact isop_del4_yes file w hf hnm
      · rw [decide_eq_false (by omega)] at hr; subst hr
        exact isop_del4_full file b w hf hnm hb
    · rw [decide_eq_false (by omega)] at hr; subst hr
      exact isop_del4_n file b n w hf hnm h0
  · rw [if_neg (by omega), if_neg (by omega), if_pos rfl] at hr
    rcases hb with hb | hb
    · rw [decide_eq_true hb] at hr; subst hr; rw [none_of hb]
      exact isop_cut_yes file n w hf hnm (by omega)
    · rw [decide_eq_false (by omega)] at hr; subst hr
      exact isop_cut_full file b n w hf hnm (by omega) hb
  · rw [if_neg (by omega), if_neg (by omega), if_neg (by omega)] at hr; subst hr
    exact isop_else op file b n w hf hnm (by omega) ho

end Go.Proofs.YtpppeadmhfggkaaGreatDoor
