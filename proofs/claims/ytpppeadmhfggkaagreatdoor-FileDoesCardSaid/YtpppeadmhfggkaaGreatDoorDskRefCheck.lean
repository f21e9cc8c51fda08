/-
  The contract of the reference's Check: what it returns and what it does to memory. Conditions: those that the theorem names.
-/
import Derived.Test.YtpppeadmhfggkaaGreatDoorDskVars
import Derived.Test.YtpppeadmhfggkaaGreatDoorFilG1
namespace Go.Proofs.YtpppeadmhfggkaaGreatDoor
open Go.RowKit DP

set_option maxRecDepth 100000 in
set_option maxHeartbeats 1000000 in
theorem ref_check_loop (A : Option Addr) (n c B : Nat) (fs : List Fl) (cap left : Int) (down : Bool) (r : Int) (w : World) (hn : fs.length = n) (hr : code (check ⟨fs, cap, left, down⟩) = r) (hs : Seen w B A (fcells fs)) (hB : B ≤ w.heap.size) (hsm : Small fs)
    (h1 : n ≤ 64) (h2 : 0 ≤ cap) (h3 : cap ≤ 65536) (u : Nat) (hu : used fs = u) (h4 : (u : Int) ≤ cap) :
    Calls Tryz.prog 38 #[.agg #[.slice A n c, .int .i64 cap, .int .i64 left, .bool down]] w fun e w' => e = .returned (.int .i64 r) ∧ Below w.heap.size w w' := by
  have HN := Lib.hid hn
  have HR : Hid (code (rises none_ fs) = r) := by show _ = _; rw [← hr, check_is (by simpa [hn] using h1) h2 h3 (by simpa [hu] using h4)]
  have HU := Lib.hid hu
  clear hn hr hu
  go_enter Tryz.func38, Tryz.ntmps38
  go_wp2_with fail
  have hx : ∀ (x : After (w.alloc (.cells #[.slice A n c, .int .i64 cap, .int .i64 left, .bool down] 24))) (i : Nat), x.val.cell? ⟨w.heap.size, i, none⟩ = (#[.slice A n c, .int .i64 cap, .int .i64 left, .bool down] : Array Value)[i]? := fun x i => by
    rw [x.below.cell (p := ⟨w.heap.size, i, none⟩) (by simp)]
    exact cell_of_row _ _ i _ 24 (0, 0) (heap_alloc_new w _)
  have hx0 := fun x => hx x 0
  have hx1 := fun x => hx x 1
  have hx2 := fun x => hx x 2
  have hx3 := fun x => hx x 3
  clear hx
  simp at hx0 hx1 hx2 hx3
  refine wp_region_after (by kernel_rfl) (by kernel_rfl) ?_
  have hsx : ∀ x : After (w.alloc (.cells #[.slice A n c, .int .i64 cap, .int .i64 left, .bool down] 24)), Seen x.val B A (fcells fs) := fun x => hs.below (((Below.refl _ _).alloc (Nat.le_refl _) _).trans (x.below.mono (by simp)) |>.mono hB)
  have hBx : ∀ x : After (w.alloc (.cells #[.slice A n c, .int .i64 cap, .int .i64 left, .bool down] 24)), B ≤ x.val.heap.size := fun x => by have := x.below.size; simp at this; omega
  have t1 : decide ((64 : Int) < (n : Int)) = false := bool_dec _ (by omega)
  have t2 : decide (cap < 0) = false := bool_dec _ (by omega)
  have t3 : decide ((65536 : Int) < cap) = false := bool_dec _ (by omega)
  have t4 : decide (cap < (u : Int)) = false := bool_dec _ (by omega)
  repeat (go_big_quiet_step ((go_at_call 41; exact Calls.after (ref_used_any A n c B fs cap left down u _ HN.out HU.out (hsx _) (hBx _) hsm))))
  refine wpQuiet_nil ?_
  rintro _ ⟨x, rfl⟩
  have d0 := hx0 x
  have d1 := hx1 x
  have d2 := hx2 x
  have d3 := hx3 x
  have hs1 := hsx x
  have hb1 : Below w.heap.size w x.val := ((Below.refl _ _).alloc (Nat.le_refl _) _).trans (x.below.mono (by simp))
  have HV1a : Var x.val w.heap.size 24 #[.slice A n c, .int .i64 cap, .int .i64 left, .bool down] := Var.below (new1 w _ _) x.below (by simp)
  obtain ⟨w1, hw1⟩ : ∃ w1, w1 = x.val := ⟨_, rfl⟩
  rw [← hw1] at d0 d1 d2 d3 hs1 hb1 HV1a ⊢
  have HV1 := Lib.hid HV1a
  clear HV1a
  clear hx0 hx1 hx2 hx3 hsx hBx hw1 x
  go_wp2_with fail
  clear t1 t2 t3 t4
  have hv1 : Var w1 w.heap.size 24 #[.slice A n c, .int .i64 cap, .int .i64 left, .bool down] := HV1.out
  go_loopw [3] (fun i wr => ∃ (k : Nat), k ≤ n ∧ i = .int .i64 k ∧ upTo fs k ∧ Below w1.heap.size w1 wr) (fun i _ => n - (intOf i).toNat)
  case atStart => exact ⟨0, by omega, rfl, fun i f h => absurd h (by omega), Below.refl _ _⟩
  case round =>
    obtain ⟨k, hk, rfl, hq, hkw⟩ := hrel
    have hbw : Below w.heap.size w wr := hb1.trans (hkw.mono hb1.size)
    have HQ := Lib.hid hq
    have hvr := hv1.below hkw hv1.lt
    clear hq hb1 d0 d1 d2 d3
    obtain ⟨d0, d1, d2, d3, f1⟩ := hvr.cells4
    have hl1 := hvr.lt
    have hbz := hbw.size
    by_cases hlt : k < n
    · obtain ⟨f, hf⟩ := file_here HN.out hlt
      have HALL : Hid (code (rises none_ fs) = r → rises none_ fs = true → okFl f = true ∧ ∀ g, 0 < k → fs[k - 1]? = some g → ltS g.n f.n = true) := fun _ h => rises_at fs k h f hf
      have hsw := hs.below (hbw.mono hB)
      obtain ⟨b, off, hA, hb, p0, p1, p2⟩ := file_at hsw hf
      have HSW := Lib.hid hsw
      subst hA
      obtain ⟨hlen, hnl⟩ := hsm.2 f (List.mem_of_getElem? hf)
      have HF := Lib.hid hf
      obtain ⟨fn, fb, fs_⟩ := f
      simp only at p0 p1 p2 hlen hnl
      have hbad : ¬ (okFl ⟨fn, fb, fs_⟩ = true ∧ ∀ g, 0 < k → fs[k - 1]? = some g → ltS g.n fn = true) → 2 = r := fun h => by
        rw [← HR.out]
        cases hc : rises none_ fs
        · rfl
        · exact absurd (HALL.out HR.out hc) h
      have HBAD : Hid (¬ (okFl ⟨fn, fb, fs_⟩ = true ∧ ∀ g, 0 < k → fs[k - 1]? = some g → ltS g.n fn = true) → 2 = r) := hbad
      have HX : Hid (okFl ⟨fn, fb, fs_⟩ = (okName fn && decide (0 < fb.size) && decide (0 ≤ fs_ ∧ fs_ ≤ fb.size))) := rfl
      clear hbad HALL hf hsw
      have hbb : b < wr.heap.size := by omega
      have hstep : Below w.heap.size w (wr.alloc (.cells #[.string fn, .string fb, .int .i64 fs_] 48)) := hbw.alloc hbz _
      obtain ⟨W5, hW5⟩ : ∃ W5, W5 = wr.alloc (.cells #[.string fn, .string fb, .int .i64 fs_] 48) := ⟨_, rfl⟩
      obtain ⟨g5, hg5⟩ : ∃ g5, g5 = wr.heap.size := ⟨_, rfl⟩
      have u5 : Var W5 g5 48 #[.string fn, .string fb, .int .i64 fs_] := by rw [hW5, hg5]; exact new1 wr _ _
      have v5 := hvr.alloc (.cells #[.string fn, .string fb, .int .i64 fs_] 48)
      rw [← hW5] at v5
      have k5 : Below w1.heap.size w1 W5 := by rw [hW5]; exact hkw.alloc hkw.size _
      have p05 : W5.cell? ⟨b, off + k * 3, none⟩ = some (.string fn) := by rw [hW5, (bel1 wr _ _).cell (p := ⟨b, off + k * 3, none⟩) hbb]; exact p0
      rw [← hW5] at hstep
      have HW5 : Hid (wr.alloc (.cells #[.string fn, .string fb, .int .i64 fs_] 48) = W5) := hW5.symm
      have HG5 : Hid (wr.heap.size = g5) := hg5.symm
      clear hW5 hg5
      have hx0 := fun (x : After W5) => (Var.cells4 (v5.below x.below v5.lt)).1
      have hy0 := fun (x : After W5) => (Var.cells3 (u5.below x.below u5.lt)).1
      have hy1 := fun (x : After W5) => (Var.cells3 (u5.below x.below u5.lt)).2.1
      have hy2 := fun (x : After W5) => (Var.cells3 (u5.below x.below u5.lt)).2.2.1
      by_cases hnm : okName fn = true
      · by_cases h0 : fb.size = 0
        · obtain rfl := HBAD.out (by rw [HX.out, decide_eq_false (show ¬ 0 < fb.size by omega)]; simp)
          have t1 : ((fb.size : Int) == 0) = true := by rw [beq_iff_eq]; omega
          have HNM := Lib.hid hnm
          clear hnm HBAD HX
          go_wp2_with fail
          rw [HW5.out, HG5.out]
          refine wp_region_after (by kernel_rfl) (by kernel_rfl) ?_
          repeat (go_big_quiet_step ((go_at_call 62; exact Calls.after_same ((ref_name_any fn true _ HNM.out (by omega)).mono fun _ _ h => ⟨h.1, h.2.symm⟩))))
          refine wpQuiet_nil ?_
          rintro _ ⟨x, rfl⟩
          have hbx : Below w.heap.size w x.val := hstep.trans (x.below.mono hstep.size)
          have kx : Below w1.heap.size w1 x.val := k5.trans (x.below.mono k5.size)
          clear hx0 hy0 hy1 hy2
          go_wp2
          go_ret
          exact ⟨rfl, hbx⟩
        · have t1 : ((fb.size : Int) == 0) = false := by rw [beq_eq_false_iff_ne]; omega
          by_cases h1 : fs_ < 0
          · obtain rfl := HBAD.out (by rw [HX.out, decide_eq_false (show ¬ (0 ≤ fs_ ∧ fs_ ≤ fb.size) by omega)]; simp)
            have t2 : decide (fs_ < 0) = true := decide_eq_true h1
            have HNM := Lib.hid hnm
            clear hnm HBAD HX
            go_wp2_with fail
            rw [HW5.out, HG5.out]
            refine wp_region_after (by kernel_rfl) (by kernel_rfl) ?_
            repeat (go_big_quiet_step ((go_at_call 62; exact Calls.after_same ((ref_name_any fn true _ HNM.out (by omega)).mono fun _ _ h => ⟨h.1, h.2.symm⟩))))
            refine wpQuiet_nil ?_
            rintro _ ⟨x, rfl⟩
            have hbx : Below w.heap.size w x.val := hstep.trans (x.below.mono hstep.size)
            have kx : Below w1.heap.size w1 x.val := k5.trans (x.below.mono k5.size)
            clear hx0 hy0 hy1 hy2
            go_wp2
            go_ret
            exact ⟨rfl, hbx⟩
          · have t2 : decide (fs_ < 0) = false := bool_dec _ h1
            by_cases h2 : (fb.size : Int) < fs_
            · obtain rfl := HBAD.out (by rw [HX.out, decide_eq_false (show ¬ (0 ≤ fs_ ∧ fs_ ≤ fb.size) by omega)]; simp)
              have t3 : decide ((fb.size : Int) < fs_) = true := decide_eq_true h2
              have HNM := Lib.hid hnm
              clear hnm HBAD HX
              go_wp2_with fail
              rw [HW5.out, HG5.out]
              refine wp_region_after (by kernel_rfl) (by kernel_rfl) ?_
              repeat (go_big_quiet_step ((go_at_call 62; exact Calls.after_same ((ref_name_any fn true _ HNM.out (by omega)).mono fun _ _ h => ⟨h.1, h.2.symm⟩))))
              refine wpQuiet_nil ?_
              rintro _ ⟨x, rfl⟩
              have hbx : Below w.heap.size w x.val := hstep.trans (x.below.mono hstep.size)
              have kx : Below w1.heap.size w1 x.val := k5.trans (x.below.mono k5.size)
              clear hx0 hy0 hy1 hy2
              go_wp2
              go_ret
              exact ⟨rfl, hbx⟩
            · have t3 : decide ((fb.size : Int) < fs_) = false := bool_dec _ h2
              have hok : okFl ⟨fn, fb, fs_⟩ = true := okFl_mk hnm (by simp only; omega) (by simp only; omega) (by simp only; omega)
              have HNM := Lib.hid hnm
              clear hnm
              by_cases hk0 : 0 < k
              · have t4 : decide ((0 : Int) < (k : Int)) = true := decide_eq_true (by omega)
                obtain ⟨g, hg⟩ := file_here HN.out (show k - 1 < n by omega)
                obtain ⟨b', off', hA', _, r0, _, _⟩ := file_at HSW.out hg
                injection hA' with hA'
                injection hA' with e1 e2 _
                subst e1 e2
                have hi : off + (k - 1) * 3 = off + ((k : Int) - 1).toNat * 3 := by congr 1; congr 1; omega
                have r05 : W5.cell? ⟨b, off + (k - 1) * 3, none⟩ = some (.string g.n) := by rw [← HW5.out, (bel1 wr _ _).cell (p := ⟨b, off + (k - 1) * 3, none⟩) hbb]; exact r0
                have hb5 : b < W5.heap.size := by rw [← HW5.out]; simp; omega
                have hz0 : ∀ (x : After W5), x.val.cell? ⟨b, off + (k - 1) * 3, none⟩ = some (.string g.n) := fun x => (x.below.cell (p := ⟨b, off + (k - 1) * 3, none⟩) hb5).trans r05
                have w1_ : IntKind.i64.wrap ((k : Int) - 1) = ((k - 1 : Nat) : Int) := by rw [IntWalk.i64_in _ (by omega)]; omega
                have w2_ : (0 : Int) ≤ ((k - 1 : Nat) : Int) := by omega
                have w3_ : ((k - 1 : Nat) : Int) < (n : Int) := by omega
                cases hlt2 : ltS g.n fn
                · obtain rfl := HBAD.out (fun h => by have := h.2 g hk0 hg; rw [hlt2] at this; cases this)
                  have z1 : Op.bytesLess g.n.toList fn.toList = false := hlt2
                  clear HBAD HX hlt2 hg r0 hi r05 hok
                  go_wp2_with fail
                  rw [HW5.out, HG5.out]
                  refine wp_region_after (by kernel_rfl) (by kernel_rfl) ?_
                  repeat (go_big_quiet_step ((go_at_call 62; exact Calls.after_same ((ref_name_any fn true _ HNM.out (by omega)).mono fun _ _ h => ⟨h.1, h.2.symm⟩))))
                  refine wpQuiet_nil ?_
                  rintro _ ⟨x, rfl⟩
                  have hbx : Below w.heap.size w x.val := hstep.trans (x.below.mono hstep.size)
                  have kx : Below w1.heap.size w1 x.val := k5.trans (x.below.mono k5.size)
                  clear hx0 hy0 hy1 hy2
                  go_wp2
                  go_ret
                  exact ⟨rfl, hbx⟩
                · have z1 : Op.bytesLess g.n.toList fn.toList = true := hlt2
                  have HM : Hid (upTo fs (k + 1)) := upTo_next HQ.out HF.out hok (fun g' _ hg' => by rw [hg] at hg'; injection hg' with hg'; subst hg'; exact hlt2)
                  clear HBAD HX hlt2 hg r0 hi r05 hok
                  go_wp2_with fail
                  rw [HW5.out, HG5.out]
                  refine wp_region_after (by kernel_rfl) (by kernel_rfl) ?_
                  repeat (go_big_quiet_step ((go_at_call 62; exact Calls.after_same ((ref_name_any fn true _ HNM.out (by omega)).mono fun _ _ h => ⟨h.1, h.2.symm⟩))))
                  refine wpQuiet_nil ?_
                  rintro _ ⟨x, rfl⟩
                  have hbx : Below w.heap.size w x.val := hstep.trans (x.below.mono hstep.size)
                  have kx : Below w1.heap.size w1 x.val := k5.trans (x.below.mono k5.size)
                  clear hx0 hy0 hy1 hy2
                  go_wp2
                  go_round
                  case rel => exact ⟨_, by omega, by go_num, HM.out, kx⟩
                  case measure => simp [intOf]; omega
              · have t4 : decide ((0 : Int) < (k : Int)) = false := bool_dec _ (by omega)
                have HM : Hid (upTo fs (k + 1)) := upTo_next HQ.out HF.out hok (fun g' h => absurd h hk0)
                clear HBAD HX hok
                go_wp2_with fail
                rw [HW5.out, HG5.out]
                refine wp_region_after (by kernel_rfl) (by kernel_rfl) ?_
                repeat (go_big_quiet_step ((go_at_call 62; exact Calls.after_same ((ref_name_any fn true _ HNM.out (by omega)).mono fun _ _ h => ⟨h.1, h.2.symm⟩))))
                refine wpQuiet_nil ?_
                rintro _ ⟨x, rfl⟩
                have hbx : Below w.heap.size w x.val := hstep.trans (x.below.mono hstep.size)
                have kx : Below w1.heap.size w1 x.val := k5.trans (x.below.mono k5.size)
                clear hx0 hy0 hy1 hy2
                go_wp2
                go_round
                case rel => exact ⟨_, by omega, by go_num, HM.out, kx⟩
                case measure => simp [intOf]; omega
      · have hnm' : okName fn = false := by simpa using hnm
        obtain rfl := HBAD.out (by rw [HX.out, hnm']; simp)
        have HNM := Lib.hid hnm'
        clear hnm hnm' HBAD HX
        go_wp2_with fail
        rw [HW5.out, HG5.out]
        refine wp_region_after (by kernel_rfl) (by kernel_rfl) ?_
        repeat (go_big_quiet_step ((go_at_call 62; exact Calls.after_same ((ref_name_any fn false _ HNM.out (by omega)).mono fun _ _ h => ⟨h.1, h.2.symm⟩))))
        refine wpQuiet_nil ?_
        rintro _ ⟨x, rfl⟩
        have hbx : Below w.heap.size w x.val := hstep.trans (x.below.mono hstep.size)
        have kx : Below w1.heap.size w1 x.val := k5.trans (x.below.mono k5.size)
        clear hx0 hy0 hy1 hy2
        go_wp2
        go_ret
        exact ⟨rfl, hbx⟩
    · obtain rfl : 0 = r := by
        rw [← HR.out, upTo_all (by rw [HN.out]; obtain rfl : k = n := (by omega); exact HQ.out)]; rfl
      clear HQ
      go_wp2
      go_ret
      exact ⟨rfl, hbw⟩

set_option maxRecDepth 100000 in
set_option maxHeartbeats 400000 in
theorem ref_check_long (A : Option Addr) (n c B : Nat) (fs : List Fl) (cap left : Int) (down : Bool) (w : World) (hn : fs.length = n) (hs : Seen w B A (fcells fs)) (hB : B ≤ w.heap.size) (_hsm : Small fs) (u : Nat) (hu : used fs = u)
    (h : 64 < n) :
    Calls Tryz.prog 38 #[.agg #[.slice A n c, .int .i64 cap, .int .i64 left, .bool down]] w fun e w' => e = .returned (.int .i64 2) ∧ Below w.heap.size w w' := by
  have HN := Lib.hid hn
  have HU := Lib.hid hu
  clear hn hu
  go_enter Tryz.func38, Tryz.ntmps38
  go_wp2_with fail
  have hx : ∀ (x : After (w.alloc (.cells #[.slice A n c, .int .i64 cap, .int .i64 left, .bool down] 24))) (i : Nat), x.val.cell? ⟨w.heap.size, i, none⟩ = (#[.slice A n c, .int .i64 cap, .int .i64 left, .bool down] : Array Value)[i]? := fun x i => by
    rw [x.below.cell (p := ⟨w.heap.size, i, none⟩) (by simp)]
    exact cell_of_row _ _ i _ 24 (0, 0) (heap_alloc_new w _)
  have hx0 := fun x => hx x 0
  have hx1 := fun x => hx x 1
  have hx2 := fun x => hx x 2
  have hx3 := fun x => hx x 3
  clear hx
  simp at hx0 hx1 hx2 hx3
  refine wp_region_after (by kernel_rfl) (by kernel_rfl) ?_
  have hsx : ∀ x : After (w.alloc (.cells #[.slice A n c, .int .i64 cap, .int .i64 left, .bool down] 24)), Seen x.val B A (fcells fs) := fun x => hs.below (((Below.refl _ _).alloc (Nat.le_refl _) _).trans (x.below.mono (by simp)) |>.mono hB)
  have hBx : ∀ x : After (w.alloc (.cells #[.slice A n c, .int .i64 cap, .int .i64 left, .bool down] 24)), B ≤ x.val.heap.size := fun x => by have := x.below.size; simp at this; omega
  have t1 : decide ((64 : Int) < (n : Int)) = true := decide_eq_true (by omega)
  repeat (go_big_quiet_step (fail))
  refine wpQuiet_nil ?_
  rintro _ ⟨x, rfl⟩
  have hb1 : Below w.heap.size w x.val := ((Below.refl _ _).alloc (Nat.le_refl _) _).trans (x.below.mono (by simp))
  go_wp2
  go_ret
  exact ⟨rfl, hb1⟩

set_option maxRecDepth 100000 in
set_option maxHeartbeats 400000 in
theorem ref_check_low (A : Option Addr) (n c B : Nat) (fs : List Fl) (cap left : Int) (down : Bool) (w : World) (hn : fs.length = n) (hs : Seen w B A (fcells fs)) (hB : B ≤ w.heap.size) (_hsm : Small fs) (u : Nat) (hu : used fs = u)
    (h1 : n ≤ 64) (h : cap < 0) :
    Calls Tryz.prog 38 #[.agg #[.slice A n c, .int .i64 cap, .int .i64 left, .bool down]] w fun e w' => e = .returned (.int .i64 2) ∧ Below w.heap.size w w' := by
  have HN := Lib.hid hn
  have HU := Lib.hid hu
  clear hn hu
  go_enter Tryz.func38, Tryz.ntmps38
  go_wp2_with fail
  have hx : ∀ (x : After (w.alloc (.cells #[.slice A n c, .int .i64 cap, .int .i64 left, .bool down] 24))) (i : Nat), x.val.cell? ⟨w.heap.size, i, none⟩ = (#[.slice A n c, .int .i64 cap, .int .i64 left, .bool down] : Array Value)[i]? := fun x i => by
    rw [x.below.cell (p := ⟨w.heap.size, i, none⟩) (by simp)]
    exact cell_of_row _ _ i _ 24 (0, 0) (heap_alloc_new w _)
  have hx0 := fun x => hx x 0
  have hx1 := fun x => hx x 1
  have hx2 := fun x => hx x 2
  have hx3 := fun x => hx x 3
  clear hx
  simp at hx0 hx1 hx2 hx3
  refine wp_region_after (by kernel_rfl) (by kernel_rfl) ?_
  have hsx : ∀ x : After (w.alloc (.cells #[.slice A n c, .int .i64 cap, .int .i64 left, .bool down] 24)), Seen x.val B A (fcells fs) := fun x => hs.below (((Below.refl _ _).alloc (Nat.le_refl _) _).trans (x.below.mono (by simp)) |>.mono hB)
  have hBx : ∀ x : After (w.alloc (.cells #[.slice A n c, .int .i64 cap, .int .i64 left, .bool down] 24)), B ≤ x.val.heap.size := fun x => by have := x.below.size; simp at this; omega
  have t1 : decide ((64 : Int) < (n : Int)) = false := bool_dec _ (by omega)
  have t2 : decide (cap < 0) = true := decide_eq_true h
  repeat (go_big_quiet_step (fail))
  refine wpQuiet_nil ?_
  rintro _ ⟨x, rfl⟩
  have hb1 : Below w.heap.size w x.val := ((Below.refl _ _).alloc (Nat.le_refl _) _).trans (x.below.mono (by simp))
  go_wp2
  go_ret
  exact ⟨rfl, hb1⟩

set_option maxRecDepth 100000 in
set_option maxHeartbeats 400000 in
theorem ref_check_high (A : Option Addr) (n c B : Nat) (fs : List Fl) (cap left : Int) (down : Bool) (w : World) (hn : fs.length = n) (hs : Seen w B A (fcells fs)) (hB : B ≤ w.heap.size) (_hsm : Small fs) (u : Nat) (hu : used fs = u)
    (h1 : n ≤ 64) (_h2 : 0 ≤ cap) (h : 65536 < cap) :
    Calls Tryz.prog 38 #[.agg #[.slice A n c, .int .i64 cap, .int .i64 left, .bool down]] w fun e w' => e = .returned (.int .i64 2) ∧ Below w.heap.size w w' := by
  have HN := Lib.hid hn
  have HU := Lib.hid hu
  clear hn hu
  go_enter Tryz.func38, Tryz.ntmps38
  go_wp2_with fail
  have hx : ∀ (x : After (w.alloc (.cells #[.slice A n c, .int .i64 cap, .int .i64 left, .bool down] 24))) (i : Nat), x.val.cell? ⟨w.heap.size, i, none⟩ = (#[.slice A n c, .int .i64 cap, .int .i64 left, .bool down] : Array Value)[i]? := fun x i => by
    rw [x.below.cell (p := ⟨w.heap.size, i, none⟩) (by simp)]
    exact cell_of_row _ _ i _ 24 (0, 0) (heap_alloc_new w _)
  have hx0 := fun x => hx x 0
  have hx1 := fun x => hx x 1
  have hx2 := fun x => hx x 2
  have hx3 := fun x => hx x 3
  clear hx
  simp at hx0 hx1 hx2 hx3
  refine wp_region_after (by kernel_rfl) (by kernel_rfl) ?_
  have hsx : ∀ x : After (w.alloc (.cells #[.slice A n c, .int .i64 cap, .int .i64 left, .bool down] 24)), Seen x.val B A (fcells fs) := fun x => hs.below (((Below.refl _ _).alloc (Nat.le_refl _) _).trans (x.below.mono (by simp)) |>.mono hB)
  have hBx : ∀ x : After (w.alloc (.cells #[.slice A n c, .int .i64 cap, .int .i64 left, .bool down] 24)), B ≤ x.val.heap.size := fun x => by have := x.below.size; simp at this; omega
  have t1 : decide ((64 : Int) < (n : Int)) = false := bool_dec _ (by omega)
  have t2 : decide (cap < 0) = false := bool_dec _ (by omega)
  have t3 : decide ((65536 : Int) < cap) = true := decide_eq_true h
  repeat (go_big_quiet_step (fail))
  refine wpQuiet_nil ?_
  rintro _ ⟨x, rfl⟩
  have hb1 : Below w.heap.size w x.val := ((Below.refl _ _).alloc (Nat.le_refl _) _).trans (x.below.mono (by simp))
  go_wp2
  go_ret
  exact ⟨rfl, hb1⟩

set_option maxRecDepth 100000 in
set_option maxHeartbeats 400000 in
theorem ref_check_full (A : Option Addr) (n c B : Nat) (fs : List Fl) (cap left : Int) (down : Bool) (w : World) (hn : fs.length = n) (hs : Seen w B A (fcells fs)) (hB : B ≤ w.heap.size) (hsm : Small fs) (u : Nat) (hu : used fs = u)
    (h1 : n ≤ 64) (h2 : 0 ≤ cap) (h3 : cap ≤ 65536) (h : cap < (u : Int)) :
    Calls Tryz.prog 38 #[.agg #[.slice A n c, .int .i64 cap, .int .i64 left, .bool down]] w fun e w' => e = .returned (.int .i64 2) ∧ Below w.heap.size w w' := by
  have HN := Lib.hid hn
  have HU := Lib.hid hu
  clear hn hu
  go_enter Tryz.func38, Tryz.ntmps38
  go_wp2_with fail
  have hx : ∀ (x : After (w.alloc (.cells #[.slice A n c, .int .i64 cap, .int .i64 left, .bool down] 24))) (i : Nat), x.val.cell? ⟨w.heap.size, i, none⟩ = (#[.slice A n c, .int .i64 cap, .int .i64 left, .bool down] : Array Value)[i]? := fun x i => by
    rw [x.below.cell (p := ⟨w.heap.size, i, none⟩) (by simp)]
    exact cell_of_row _ _ i _ 24 (0, 0) (heap_alloc_new w _)
  have hx0 := fun x => hx x 0
  have hx1 := fun x => hx x 1
  have hx2 := fun x => hx x 2
  have hx3 := fun x => hx x 3
  clear hx
  simp at hx0 hx1 hx2 hx3
  refine wp_region_after (by kernel_rfl) (by kernel_rfl) ?_
  have hsx : ∀ x : After (w.alloc (.cells #[.slice A n c, .int .i64 cap, .int .i64 left, .bool down] 24)), Seen x.val B A (fcells fs) := fun x => hs.below (((Below.refl _ _).alloc (Nat.le_refl _) _).trans (x.below.mono (by simp)) |>.mono hB)
  have hBx : ∀ x : After (w.alloc (.cells #[.slice A n c, .int .i64 cap, .int .i64 left, .bool down] 24)), B ≤ x.val.heap.size := fun x => by have := x.below.size; simp at this; omega
  have t1 : decide ((64 : Int) < (n : Int)) = false := bool_dec _ (by omega)
  have t2 : decide (cap < 0) = false := bool_dec _ (by omega)
  have t3 : decide ((65536 : Int) < cap) = false := bool_dec _ (by omega)
  have t4 : decide (cap < (u : Int)) = true := decide_eq_true h
  repeat (go_big_quiet_step ((go_at_call 41; exact Calls.after (ref_used_any A n c B fs cap left down u _ HN.out HU.out (hsx _) (hBx _) hsm))))
  refine wpQuiet_nil ?_
  rintro _ ⟨x, rfl⟩
  have hb1 : Below w.heap.size w x.val := ((Below.refl _ _).alloc (Nat.le_refl _) _).trans (x.below.mono (by simp))
  go_wp2
  go_ret
  exact ⟨rfl, hb1⟩

theorem ref_check_any (A : Option Addr) (n c B : Nat) (fs : List Fl) (cap left : Int) (down : Bool) (r : Int) (w : World) (hn : fs.length = n) (hr : code (check ⟨fs, cap, left, down⟩) = r) (hs : Seen w B A (fcells fs)) (hB : B ≤ w.heap.size) (hsm : Small fs) :
    Calls Tryz.prog 38 #[.agg #[.slice A n c, .int .i64 cap, .int .i64 left, .bool down]] w fun e w' => e = .returned (.int .i64 r) ∧ Below w.heap.size w w' := by
  by_cases h1 : n ≤ 64
  · by_cases h2 : 0 ≤ cap
    · by_cases h3 : cap ≤ 65536
      · by_cases h4 : ((used fs : Nat) : Int) ≤ cap
        · exact ref_check_loop A n c B fs cap left down r w hn hr hs hB hsm h1 h2 h3 _ rfl h4
        · obtain rfl : 2 = r := by rw [← hr, check_off (fun h => h4 h.2.2.2)]; rfl
          exact ref_check_full A n c B fs cap left down w hn hs hB hsm _ rfl h1 h2 h3 (by omega)
      · obtain rfl : 2 = r := by rw [← hr, check_off (fun h => h3 h.2.2.1)]; rfl
        exact ref_check_high A n c B fs cap left down w hn hs hB hsm _ rfl h1 h2 (by omega)
    · obtain rfl : 2 = r := by rw [← hr, check_off (fun h => h2 h.2.1)]; rfl
      exact ref_check_low A n c B fs cap left down w hn hs hB hsm _ rfl h1 (by omega)
  · obtain rfl : 2 = r := by rw [← hr, check_off (fun h => h1 (by simpa [hn] using h.1))]; rfl
    exact ref_check_long A n c B fs cap left down w hn hs hB hsm _ rfl (by omega)

end Go.Proofs.YtpppeadmhfggkaaGreatDoor
