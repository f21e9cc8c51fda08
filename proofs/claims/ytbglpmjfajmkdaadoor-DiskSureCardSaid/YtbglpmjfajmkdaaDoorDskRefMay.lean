/-
  Contracts of the reference's may, New and Arm: what each returns and what it does to memory. Conditions: those that each theorem names.
-/
import Derived.Test.YtbglpmjfajmkdaaDoorDskRefCheck
import Derived.Test.YtbglpmjfajmkdaaDoorDskNew
namespace Go.Proofs.YtbglpmjfajmkdaaDoor
open Go.RowKit DP

theorem isOp_eval (op : Int) (file b : ByteArray) (n : Int) : isOp ⟨op, file, b, n⟩ = (okName file && (if op = 0 ∨ op = 2 then decide (0 < b.size) && decide (n = 0) else if op = 1 ∨ op = 4 then decide (b.size = 0) && decide (n = 0) else if op = 3 then decide (b.size = 0) && decide (0 ≤ n) else false)) := by
  unfold isOp
  simp only
  cases okName file
  · rfl
  · simp only [Bool.true_and]
    split
    · by_cases h : n = 0
      · subst h; simp
      · simp [h]
    · split
      · by_cases h : n = 0
        · subst h; simp
        · simp [h]
      · split
        · rw [Bool.and_comm]
        · simp
set_option maxRecDepth 100000 in
set_option maxHeartbeats 4000000 in
theorem ref_may_any (op : Int) (file b : ByteArray) (n : Int) (r : Bool) (w : World) (hf : file.size ≤ 9223372036854775807) (hr : isOp ⟨op, file, b, n⟩ = r) :
    Calls Tryd.prog 35 #[.agg #[.int .i8 op, .string file, .string b, .int .i64 n]] w fun e w' => e = .returned (.bool r) ∧ Below w.heap.size w w' := by
  have HR := Lib.hid hr
  clear hr
  have hb1 := bel1 w #[.int .i8 op, .string file, .string b, .int .i64 n] 27
  cases hnm : okName file
  · have HNM := Lib.hid hnm
    obtain rfl : r = false := by rw [← HR.out, isOp_eval, hnm]; rfl
    clear hnm
    go_enter Tryd.func35, Tryd.ntmps35
    go_wp2_with (go_at_call 29; refine (ref_name_any file false _ HNM.out hf).mono ?_; rintro e w3 ⟨rfl, rfl⟩)
    go_ret
    exact ⟨rfl, hb1⟩
  · have HNM := Lib.hid hnm
    by_cases o0 : op = 0
    · subst o0
      by_cases hb : 0 < b.size
      · by_cases h0 : n = 0
        · subst h0
          obtain rfl : r = true := by rw [← HR.out, isOp_eval]; simp [hnm, hb]
          have t1 : decide ((0 : Int) < (b.size : Int)) = true := decide_eq_true (by omega)
          have z3 : ((0 : Int) == 0) = true := rfl
          clear hnm
          go_enter Tryd.func35, Tryd.ntmps35
          go_wp2_with (go_at_call 29; refine (ref_name_any file true _ HNM.out hf).mono ?_; rintro e w3 ⟨rfl, rfl⟩)
          go_ret
          exact ⟨rfl, hb1⟩
        · obtain rfl : r = false := by rw [← HR.out, isOp_eval]; simp [hnm, h0]
          have t1 : decide ((0 : Int) < (b.size : Int)) = true := decide_eq_true (by omega)
          have z3 : (n == 0) = false := by rw [beq_eq_false_iff_ne]; exact h0
          clear hnm
          go_enter Tryd.func35, Tryd.ntmps35
          go_wp2_with (go_at_call 29; refine (ref_name_any file true _ HNM.out hf).mono ?_; rintro e w3 ⟨rfl, rfl⟩)
          go_ret
          exact ⟨rfl, hb1⟩
      · obtain rfl : r = false := by rw [← HR.out, isOp_eval]; simp [hnm, hb]
        have t1 : decide ((0 : Int) < (b.size : Int)) = false := bool_dec _ (by omega)
        clear hnm
        go_enter Tryd.func35, Tryd.ntmps35
        go_wp2_with (go_at_call 29; refine (ref_name_any file true _ HNM.out hf).mono ?_; rintro e w3 ⟨rfl, rfl⟩)
        go_ret
        exact ⟨rfl, hb1⟩
    by_cases o2 : op = 2
    · subst o2
      by_cases hb : 0 < b.size
      · by_cases h0 : n = 0
        · subst h0
          obtain rfl : r = true := by rw [← HR.out, isOp_eval]; simp [hnm, hb]
          have t1 : decide ((0 : Int) < (b.size : Int)) = true := decide_eq_true (by omega)
          have z3 : ((0 : Int) == 0) = true := rfl
          clear hnm
          go_enter Tryd.func35, Tryd.ntmps35
          go_wp2_with (go_at_call 29; refine (ref_name_any file true _ HNM.out hf).mono ?_; rintro e w3 ⟨rfl, rfl⟩)
          go_ret
          exact ⟨rfl, hb1⟩
        · obtain rfl : r = false := by rw [← HR.out, isOp_eval]; simp [hnm, h0]
          have t1 : decide ((0 : Int) < (b.size : Int)) = true := decide_eq_true (by omega)
          have z3 : (n == 0) = false := by rw [beq_eq_false_iff_ne]; exact h0
          clear hnm
          go_enter Tryd.func35, Tryd.ntmps35
          go_wp2_with (go_at_call 29; refine (ref_name_any file true _ HNM.out hf).mono ?_; rintro e w3 ⟨rfl, rfl⟩)
          go_ret
          exact ⟨rfl, hb1⟩
      · obtain rfl : r = false := by rw [← HR.out, isOp_eval]; simp [hnm, hb]
        have t1 : decide ((0 : Int) < (b.size : Int)) = false := bool_dec _ (by omega)
        clear hnm
        go_enter Tryd.func35, Tryd.ntmps35
        go_wp2_with (go_at_call 29; refine (ref_name_any file true _ HNM.out hf).mono ?_; rintro e w3 ⟨rfl, rfl⟩)
        go_ret
        exact ⟨rfl, hb1⟩
    by_cases o1 : op = 1
    · subst o1
      by_cases hb : 0 < b.size
      · obtain rfl : r = false := by rw [← HR.out, isOp_eval]; simp [hnm, show ¬ b.size = 0 by omega]
        obtain ⟨z1, z2⟩ := full_ways hb
        clear hnm
        go_enter Tryd.func35, Tryd.ntmps35
        go_wp2_with (go_at_call 29; refine (ref_name_any file true _ HNM.out hf).mono ?_; rintro e w3 ⟨rfl, rfl⟩)
        go_ret
        exact ⟨rfl, hb1⟩
      · have hb0 : b.size = 0 := by omega
        obtain rfl := eq_none.2 hb0
        have z1 := bare_toList
        unfold none_ at z1
        by_cases h0 : n = 0
        · obtain rfl : r = true := by rw [← HR.out, isOp_eval]; simp [hnm, hb0, h0]
          unfold none_ at *
          subst h0
          have z3 : ((0 : Int) == 0) = true := rfl
          clear hnm
          go_enter Tryd.func35, Tryd.ntmps35
          go_wp2_with (go_at_call 29; refine (ref_name_any file true _ HNM.out hf).mono ?_; rintro e w3 ⟨rfl, rfl⟩)
          go_ret
          exact ⟨rfl, hb1⟩
        · obtain rfl : r = false := by rw [← HR.out, isOp_eval]; simp [hnm, hb0, h0]
          unfold none_ at *
          have z3 : (n == 0) = false := by rw [beq_eq_false_iff_ne]; exact h0
          clear hnm
          go_enter Tryd.func35, Tryd.ntmps35
          go_wp2_with (go_at_call 29; refine (ref_name_any file true _ HNM.out hf).mono ?_; rintro e w3 ⟨rfl, rfl⟩)
          go_ret
          exact ⟨rfl, hb1⟩
    by_cases o4 : op = 4
    · subst o4
      by_cases hb : 0 < b.size
      · obtain rfl : r = false := by rw [← HR.out, isOp_eval]; simp [hnm, show ¬ b.size = 0 by omega]
        obtain ⟨z1, z2⟩ := full_ways hb
        clear hnm
        go_enter Tryd.func35, Tryd.ntmps35
        go_wp2_with (go_at_call 29; refine (ref_name_any file true _ HNM.out hf).mono ?_; rintro e w3 ⟨rfl, rfl⟩)
        go_ret
        exact ⟨rfl, hb1⟩
      · have hb0 : b.size = 0 := by omega
        obtain rfl := eq_none.2 hb0
        have z1 := bare_toList
        unfold none_ at z1
        by_cases h0 : n = 0
        · obtain rfl : r = true := by rw [← HR.out, isOp_eval]; simp [hnm, hb0, h0]
          unfold none_ at *
          subst h0
          have z3 : ((0 : Int) == 0) = true := rfl
          clear hnm
          go_enter Tryd.func35, Tryd.ntmps35
          go_wp2_with (go_at_call 29; refine (ref_name_any file true _ HNM.out hf).mono ?_; rintro e w3 ⟨rfl, rfl⟩)
          go_ret
          exact ⟨rfl, hb1⟩
        · obtain rfl : r = false := by rw [← HR.out, isOp_eval]; simp [hnm, hb0, h0]
          unfold none_ at *
          have z3 : (n == 0) = false := by rw [beq_eq_false_iff_ne]; exact h0
          clear hnm
          go_enter Tryd.func35, Tryd.ntmps35
          go_wp2_with (go_at_call 29; refine (ref_name_any file true _ HNM.out hf).mono ?_; rintro e w3 ⟨rfl, rfl⟩)
          go_ret
          exact ⟨rfl, hb1⟩
    by_cases o3 : op = 3
    · subst o3
      by_cases hb : 0 < b.size
      · obtain rfl : r = false := by rw [← HR.out, isOp_eval]; simp [hnm, show ¬ b.size = 0 by omega]
        obtain ⟨z1, z2⟩ := full_ways hb
        clear hnm
        go_enter Tryd.func35, Tryd.ntmps35
        go_wp2_with (go_at_call 29; refine (ref_name_any file true _ HNM.out hf).mono ?_; rintro e w3 ⟨rfl, rfl⟩)
        go_ret
        exact ⟨rfl, hb1⟩
      · have hb0 : b.size = 0 := by omega
        obtain rfl := eq_none.2 hb0
        have z1 := bare_toList
        unfold none_ at z1
        by_cases h0 : 0 ≤ n
        · obtain rfl : r = true := by rw [← HR.out, isOp_eval]; simp [hnm, hb0, h0]
          unfold none_ at *
          have z3 : decide (0 ≤ n) = true := decide_eq_true h0
          clear hnm
          go_enter Tryd.func35, Tryd.ntmps35
          go_wp2_with (go_at_call 29; refine (ref_name_any file true _ HNM.out hf).mono ?_; rintro e w3 ⟨rfl, rfl⟩)
          go_ret
          exact ⟨rfl, hb1⟩
        · obtain rfl : r = false := by rw [← HR.out, isOp_eval]; simp [hnm, hb0, h0]
          unfold none_ at *
          have z3 : decide (0 ≤ n) = false := bool_dec _ h0
          clear hnm
          go_enter Tryd.func35, Tryd.ntmps35
          go_wp2_with (go_at_call 29; refine (ref_name_any file true _ HNM.out hf).mono ?_; rintro e w3 ⟨rfl, rfl⟩)
          go_ret
          exact ⟨rfl, hb1⟩
    have y0 : (op == 0) = false := by rw [beq_eq_false_iff_ne]; exact o0
    have y1 : (op == 1) = false := by rw [beq_eq_false_iff_ne]; exact o1
    have y2 : (op == 2) = false := by rw [beq_eq_false_iff_ne]; exact o2
    have y3 : (op == 3) = false := by rw [beq_eq_false_iff_ne]; exact o3
    have y4 : (op == 4) = false := by rw [beq_eq_false_iff_ne]; exact o4
    obtain rfl : r = false := by rw [← HR.out, isOp_eval]; simp [hnm, o0, o1, o2, o3, o4]
    clear hnm
    go_enter Tryd.func35, Tryd.ntmps35
    go_wp2_with (go_at_call 29; refine (ref_name_any file true _ HNM.out hf).mono ?_; rintro e w3 ⟨rfl, rfl⟩)
    go_ret
    exact ⟨rfl, hb1⟩

theorem ref_new_any (most cap' left' : Int) (fs' : List Fl) (down' : Bool) (r : Int) (w : World) (hr : new most = (⟨fs', cap', left', down'⟩, r)) :
    Calls Tryd.prog 20 #[.int .i64 most] w (DiskRes fs' cap' left' down' r w) := by
  unfold new at hr
  by_cases h : most < 0 ∨ 65536 < most
  · rw [if_pos h] at hr
    simp only [noDisk, Prod.mk.injEq, Dk.mk.injEq] at hr
    obtain ⟨⟨rfl, rfl, rfl, rfl⟩, rfl⟩ := hr
    rcases h with h | h
    · go_enter Tryd.func20, Tryd.ntmps20
      go_wp2
      exact bodyPost_ret (v := .tuple #[.agg #[.slice none 0 0, .int .i64 0, .int .i64 0, .bool false], .int .i64 2]) (by simp [results, Tryd.results20, go_sem]) rfl ⟨none, 0, 0, rfl, rfl, Seen.nil _ _ _, Nat.le_refl _, (Below.refl _ _).alloc (Nat.le_refl _) _⟩
    · have h0 : 0 ≤ most := by omega
      go_enter Tryd.func20, Tryd.ntmps20
      go_wp2
      exact bodyPost_ret (v := .tuple #[.agg #[.slice none 0 0, .int .i64 0, .int .i64 0, .bool false], .int .i64 2]) (by simp [results, Tryd.results20, go_sem]) rfl ⟨none, 0, 0, rfl, rfl, Seen.nil _ _ _, Nat.le_refl _, (Below.refl _ _).alloc (Nat.le_refl _) _⟩
  · rw [if_neg h] at hr
    simp only [Prod.mk.injEq, Dk.mk.injEq] at hr
    obtain ⟨⟨rfl, rfl, rfl, rfl⟩, rfl⟩ := hr
    have h0 : 0 ≤ most := by omega
    have h1 : most ≤ 65536 := by omega
    have h2 : decide ((65536 : Int) < most) = false := bool_dec _ (by omega)
    clear h
    go_enter Tryd.func20, Tryd.ntmps20
    go_wp2
    exact bodyPost_ret (v := .tuple #[.agg #[.slice none 0 0, .int .i64 most, .int .i64 (-1), .bool false], .int .i64 0]) (by simp [results, Tryd.results20, go_sem]) rfl ⟨none, 0, 0, rfl, rfl, Seen.nil _ _ _, Nat.le_refl _, (Below.refl _ _).alloc (Nat.le_refl _) _⟩


/-- A disk that is stored into the result's variable. -/
theorem disk_out {fs : List Fl} {cap left r : Int} {down : Bool} {g m c : Nat} {A : Option Addr} {w W : World} {o0 o1 o2 o3 : Value} (hl : fs.length = m) (hs : Seen W W.heap.size A (fcells fs)) (hc : m ≤ c) (v : Var W g 24 #[o0, o1, o2, o3])
    (ho : ∀ (i : Nat) (s : ByteArray), (#[o0, o1, o2, o3] : Array Value)[i]? ≠ some (Value.string s)) (hg : w.heap.size ≤ g) (hb : Below w.heap.size w W) :
    DiskRes fs cap left down r w (.returned (.tuple #[.agg #[.slice A m c, .int .i64 cap, .int .i64 left, .bool down], .int .i64 r])) ((((W.setCell ⟨g, 0, none⟩ (.slice A m c)).setCell ⟨g, 1, none⟩ (.int .i64 cap)).setCell ⟨g, 2, none⟩ (.int .i64 left)).setCell ⟨g, 3, none⟩ (.bool down)) :=
  have ha := seen_apart hs v ho
  ⟨A, m, c, rfl, hl, ((((hs.off ha).off ha).off ha).off ha).up (by simp), hc, hb.trans (set4_below hg)⟩
set_option maxRecDepth 100000 in
set_option maxHeartbeats 1000000 in
theorem ref_arm_bad (A : Option Addr) (n c B : Nat) (fs : List Fl) (cap left k : Int) (down : Bool) (w : World) (hn : fs.length = n) (hs : Seen w B A (fcells fs)) (hB : B ≤ w.heap.size) (hsm : Small fs) (hnc : n ≤ c) (hc : check ⟨fs, cap, left, down⟩ = false) :
    Calls Tryd.prog 16 #[.agg #[.slice A n c, .int .i64 cap, .int .i64 left, .bool down], .int .i64 k] w (DiskRes [] 0 0 false 2 w) := by
  have _u := hnc
  clear _u
  have HN := Lib.hid hn
  have HC : Hid (code (check ⟨fs, cap, left, down⟩) = 2) := by show _ = _; rw [hc]; rfl
  clear hn hc
  go_enter Tryd.func16, Tryd.ntmps16
  go_wp2_with fail
  have hvs := new2 w #[.slice A n c, .int .i64 cap, .int .i64 left, .bool down] #[.slice none 0 0, .int .i64 0, .int .i64 0, .bool false] 24 24
  have hbs := bel2 w #[.slice A n c, .int .i64 cap, .int .i64 left, .bool down] #[.slice none 0 0, .int .i64 0, .int .i64 0, .bool false] 24 24
  refine (ref_check_any A n c B fs cap left down 2 _ HN.out HC.out (hs.below (hbs.mono hB)) (by simp; omega) hsm).mono ?_
  rintro e w1 ⟨rfl, hb1⟩
  have v1 := Var.below hvs.1 hb1 (by simp; omega)
  have v3 := Var.below hvs.2 hb1 (by simp)
  have hb1' : Below w.heap.size w w1 := hbs.trans (hb1.mono (by simp; omega))
  have hs1 := (hs.below (hb1'.mono hB)).up (Nat.le_trans hB hb1'.size)
  clear hvs hbs hb1
  obtain ⟨d0, d1, d2, d3, f1⟩ := v1.cells4
  obtain ⟨e0, e1, e2, e3, f3⟩ := v3.cells4
  have l1 := v1.lt
  have l3 := v3.lt
  go_wp2
  refine bodyPost_ret (v := .tuple #[.agg #[.slice none 0 0, .int .i64 0, .int .i64 0, .bool false], .int .i64 2]) (by simp [results, Tryd.results16, go_sem, e0, e1, e2, e3]) rfl (disk_out rfl (Seen.nil _ _ _) (Nat.le_refl _) v3 disk_noText (by omega) hb1')
set_option maxRecDepth 100000 in
set_option maxHeartbeats 1000000 in
theorem ref_arm_good (A : Option Addr) (n c B : Nat) (fs : List Fl) (cap left k : Int) (down : Bool) (w : World) (hn : fs.length = n) (hs : Seen w B A (fcells fs)) (hB : B ≤ w.heap.size) (hsm : Small fs) (hnc : n ≤ c) (k' : Int) (hk : max k (-1) = k') (hc : check ⟨fs, cap, left, down⟩ = true) :
    Calls Tryd.prog 16 #[.agg #[.slice A n c, .int .i64 cap, .int .i64 left, .bool down], .int .i64 k] w (DiskRes fs cap k' down 0 w) := by
  have hmax : max (-1) k = k' := by rw [← hk]; omega
  have HN := Lib.hid hn
  have HC : Hid (code (check ⟨fs, cap, left, down⟩) = 0) := by show _ = _; rw [hc]; rfl
  clear hn hc
  go_enter Tryd.func16, Tryd.ntmps16
  go_wp2_with fail
  have hvs := new2 w #[.slice A n c, .int .i64 cap, .int .i64 left, .bool down] #[.slice none 0 0, .int .i64 0, .int .i64 0, .bool false] 24 24
  have hbs := bel2 w #[.slice A n c, .int .i64 cap, .int .i64 left, .bool down] #[.slice none 0 0, .int .i64 0, .int .i64 0, .bool false] 24 24
  refine (ref_check_any A n c B fs cap left down 0 _ HN.out HC.out (hs.below (hbs.mono hB)) (by simp; omega) hsm).mono ?_
  rintro e w1 ⟨rfl, hb1⟩
  have v1 := Var.below hvs.1 hb1 (by simp; omega)
  have v3 := Var.below hvs.2 hb1 (by simp)
  have hb1' : Below w.heap.size w w1 := hbs.trans (hb1.mono (by simp; omega))
  have hs1 := (hs.below (hb1'.mono hB)).up (Nat.le_trans hB hb1'.size)
  clear hvs hbs hb1
  obtain ⟨d0, d1, d2, d3, f1⟩ := v1.cells4
  obtain ⟨e0, e1, e2, e3, f3⟩ := v3.cells4
  have l1 := v1.lt
  have l3 := v3.lt
  have u1 : Var (w1.setCell ⟨w.heap.size, 2, none⟩ (.int .i64 k')) w.heap.size 24 #[.slice A n c, .int .i64 cap, .int .i64 k', .bool down] := by simpa using v1.set 2 (.int .i64 k')
  have u3 : Var (w1.setCell ⟨w.heap.size, 2, none⟩ (.int .i64 k')) (w.heap.size + 1) 24 #[.slice none 0 0, .int .i64 0, .int .i64 0, .bool false] := v3.other 2 _ (by omega)
  have hs2 : Seen (w1.setCell ⟨w.heap.size, 2, none⟩ (.int .i64 k')) w1.heap.size A (fcells fs) := hs1.off (seen_apart hs1 v1 disk_noText)
  have hb2 : Below w.heap.size w (w1.setCell ⟨w.heap.size, 2, none⟩ (.int .i64 k')) := hb1'.setCell (Nat.le_refl _) _
  go_wp2
  refine bodyPost_ret (v := .tuple #[.agg #[.slice A n c, .int .i64 cap, .int .i64 k', .bool down], .int .i64 0]) (by simp [results, Tryd.results16, go_sem, e0, e1, e2, e3]) rfl ?_
  exact disk_out HN.out (hs2.up (by simp)) hnc u3 disk_noText (by omega) hb2
theorem ref_arm_any (A : Option Addr) (n c B : Nat) (fs fs' : List Fl) (cap left k cap' left' : Int) (down down' : Bool) (r : Int) (w : World) (hn : fs.length = n) (hs : Seen w B A (fcells fs)) (hB : B ≤ w.heap.size) (hsm : Small fs) (hnc : n ≤ c)
    (hr : arm ⟨fs, cap, left, down⟩ k = (⟨fs', cap', left', down'⟩, r)) :
    Calls Tryd.prog 16 #[.agg #[.slice A n c, .int .i64 cap, .int .i64 left, .bool down], .int .i64 k] w (DiskRes fs' cap' left' down' r w) := by
  unfold arm at hr
  cases hc : check ⟨fs, cap, left, down⟩
  · rw [if_pos hc] at hr
    simp only [noDisk, Prod.mk.injEq, Dk.mk.injEq] at hr
    obtain ⟨⟨rfl, rfl, rfl, rfl⟩, rfl⟩ := hr
    exact ref_arm_bad A n c B fs cap left k down w hn hs hB hsm hnc hc
  · rw [if_neg (by rw [hc]; simp)] at hr
    simp only [Prod.mk.injEq, Dk.mk.injEq] at hr
    obtain ⟨⟨rfl, rfl, rfl, rfl⟩, rfl⟩ := hr
    exact ref_arm_good A n c B fs cap left k down w hn hs hB hsm hnc _ rfl hc
end Go.Proofs.YtbglpmjfajmkdaaDoor
