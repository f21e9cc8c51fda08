/-
  Contracts of Check, the program's: what it returns and what it does to memory. Conditions: those that the theorem names.
-/
import Derived.Test.YtpppeadmhfggkaaGreatDoorDskUsed
namespace Go.Proofs.YtpppeadmhfggkaaGreatDoor
open Go.RowKit DP

def code (b : Bool) : Int := if b then 0 else 2
theorem code_t : code true = 0 := rfl
theorem code_f : code false = 2 := rfl

theorem rises_step {fs : List Fl} {k : Nat} {f : Fl} (h : fs[k]? = some f) (p : ByteArray) : rises p (fs.drop k) = (okFl f && ltS p f.n && rises f.n (fs.drop (k + 1))) := by
  obtain ⟨hk, hf⟩ := List.getElem?_eq_some_iff.1 h
  rw [List.drop_eq_getElem_cons hk, hf]; rfl
theorem check_is {d : Dk} (h1 : d.fs.length ≤ 64) (h2 : 0 ≤ d.cap) (h3 : d.cap ≤ 65536) (h4 : (used d.fs : Int) ≤ d.cap) : check d = rises none_ d.fs := by
  unfold check head
  rw [decide_eq_true ⟨h1, h2, h3, h4⟩, Bool.true_and]
theorem check_off {d : Dk} (h : ¬ (d.fs.length ≤ 64 ∧ 0 ≤ d.cap ∧ d.cap ≤ 65536 ∧ (used d.fs : Int) ≤ d.cap)) : check d = false := by
  unfold check head
  rw [decide_eq_false h, Bool.false_and]

/-- What the walk wants to know of a string that is not empty. -/
theorem full_ways {s : ByteArray} (h : 0 < s.size) : (s.toList == []) = false ∧ s.toList.isEmpty = false := by
  have he : s.toList = [] → False := fun h => by have := size_toList s; rw [h] at this; simp at this; omega
  refine ⟨by rw [← Bool.not_eq_true, beq_iff_eq]; exact he, ?_⟩
  cases hh : s.toList with
  | nil => exact absurd hh he
  | cons x r => rfl
theorem bare_toList : (none_).toList = [] := by rw [Lib.toList_data]; rfl
/-- How two names compare, in the walk's words. -/
theorem name_less {a b : ByteArray} (h : ltS a b = true) : Op.bytesLess a.toList b.toList = true ∧ Op.bytesLess b.toList a.toList = false ∧ (a.toList == b.toList) = false ∧ (b.toList == a.toList) = false :=
  ⟨h, ltS_asymm h, eqS_not.2 (ltS_ne h), eqS_not.2 (fun e => ltS_ne h e.symm)⟩

set_option maxRecDepth 100000 in
set_option maxHeartbeats 1000000 in
theorem check_loop (A : Option Addr) (n c B : Nat) (fs : List Fl) (cap left : Int) (down : Bool) (r : Int) (w : World) (hn : fs.length = n) (hr : code (check ⟨fs, cap, left, down⟩) = r) (hs : Seen w B A (fcells fs)) (hB : B ≤ w.heap.size) (hsm : Small fs)
    (h1 : n ≤ 64) (h2 : 0 ≤ cap) (h3 : cap ≤ 65536) (u : Nat) (hu : used fs = u) (h4 : (u : Int) ≤ cap) :
    Calls Tryz.prog 71 #[.agg #[.slice A n c, .int .i64 cap, .int .i64 left, .bool down]] w fun e w' => e = .returned (.int .i64 r) ∧ Below w.heap.size w w' := by
  have HN := Lib.hid hn
  have HR : Hid (code (rises none_ fs) = r) := by show _ = _; rw [← hr, check_is (by simpa [hn] using h1) h2 h3 (by simpa [hu] using h4)]
  have HU := Lib.hid hu
  clear hn hr hu
  go_enter Tryz.func71, Tryz.ntmps71
  go_wp2_with fail
  have hx : ∀ (x : After (w.alloc (.cells #[.slice A n c, .int .i64 cap, .int .i64 left, .bool down] 24))) (i : Nat), x.val.cell? ⟨w.heap.size, i, none⟩ = (#[.slice A n c, .int .i64 cap, .int .i64 left, .bool down] : Array Value)[i]? := fun x i => by
    rw [x.below.cell (p := ⟨w.heap.size, i, none⟩) (by simp)]
    exact cell_of_row _ _ i _ 24 (0, 0) (heap_alloc_new w _)
  have hx0 := fun x => hx x 0
  have hx1 := fun x => hx x 1
  have hx2 := fun x => hx x 2
  have hx3 := fun x => hx x 3
  clear hx
  simp at hx0 hx1 hx2 hx3
  refine wp_region_after (by kernel_rfl) (by kernel_rfl) ?_
  have hsx : ∀ x : After (w.alloc (.cells #[.slice A n c, .int .i64 cap, .int .i64 left, .bool down] 24)), Seen x.val B A (fcells fs) := fun x => hs.below (((Below.refl _ _).alloc (Nat.le_refl _) _).trans (x.below.mono (by simp)) |>.mono hB)
  have hBx : ∀ x : After (w.alloc (.cells #[.slice A n c, .int .i64 cap, .int .i64 left, .bool down] 24)), B ≤ x.val.heap.size := fun x => by have := x.below.size; simp at this; omega
  have t1 : decide ((64 : Int) < (n : Int)) = false := bool_dec _ (by omega)
  have t2 : decide (cap < 0) = false := bool_dec _ (by omega)
  have t3 : decide ((65536 : Int) < cap) = false := bool_dec _ (by omega)
  have t4 : decide (cap < (u : Int)) = false := bool_dec _ (by omega)
  repeat (go_big_quiet_step ((go_at_call 60; exact Calls.after (used_any A n c B fs cap left down u _ HN.out HU.out (hsx _) (hBx _) hsm))))
  refine wpQuiet_nil ?_
  rintro _ ⟨x, rfl⟩
  have d0 := hx0 x
  have d1 := hx1 x
  have d2 := hx2 x
  have d3 := hx3 x
  have hs1 := hsx x
  have hb1 : Below w.heap.size w x.val := ((Below.refl _ _).alloc (Nat.le_refl _) _).trans (x.below.mono (by simp))
  obtain ⟨w1, hw1⟩ : ∃ w1, w1 = x.val := ⟨_, rfl⟩
  rw [← hw1] at d0 d1 d2 d3 hs1 hb1 ⊢
  clear hx0 hx1 hx2 hx3 hsx hBx hw1 x
  go_wp2_with fail
  clear t1 t2 t3 t4
  have hwz := hb1.size
  go_loopw [3, 30] (fun p i wr => ∃ (k : Nat) (q : ByteArray), k ≤ n ∧ i = .int .i64 k ∧ p = .string q ∧ rises none_ fs = rises q (fs.drop k) ∧ Below w.heap.size w wr) (fun _ i _ => n - (intOf i).toNat)
  case atStart => exact ⟨0, none_, by omega, rfl, rfl, rfl, hb1⟩
  case round =>
    obtain ⟨k, q, hk, rfl, rfl, hq, hbw⟩ := hrel
    have HQ := Lib.hid hq
    clear hq hb1 d0 d1 d2 d3
    have hbz := hbw.size
    by_cases hlt : k < n
    · obtain ⟨f, hf⟩ := file_here HN.out hlt
      obtain ⟨b, off, rfl, hb, d0, d1, d2⟩ := file_at (hs.below (hbw.mono hB)) hf
      obtain ⟨hlen, hnl⟩ := hsm.2 f (List.mem_of_getElem? hf)
      have HF := Lib.hid (rises_step hf q)
      obtain ⟨fn, fb, fs_⟩ := f
      simp only at d0 d1 d2 hlen hnl
      clear hf
      have hbad : (okFl ⟨fn, fb, fs_⟩ && ltS q fn) = false → 2 = r := fun h => by
        rw [← HR.out, HQ.out, HF.out, h, Bool.false_and]; rfl
      have HBAD : Hid ((okFl ⟨fn, fb, fs_⟩ && ltS q fn) = false → 2 = r) := hbad
      have HOK : Hid ((okFl ⟨fn, fb, fs_⟩ && ltS q fn) = true → rises none_ fs = rises fn (fs.drop (k + 1))) := fun h => by rw [HQ.out, HF.out, h, Bool.true_and]
      have HX : Hid (okFl ⟨fn, fb, fs_⟩ = (okName fn && decide (0 < fb.size) && decide (0 ≤ fs_ ∧ fs_ ≤ fb.size))) := rfl
      clear hbad HF HR HQ
      cases hnm : okName fn
      · obtain rfl := HBAD.out (by rw [HX.out, hnm]; rfl)
        have HNM := Lib.hid hnm
        clear hnm HOK HX HBAD
        go_wp2_with (go_at_call 72; refine (name_any fn false _ HNM.out (by omega)).mono ?_; rintro e w3 ⟨rfl, hb3⟩)
        go_ret
        exact ⟨rfl, (hbw.alloc (by omega) _).trans (hb3.mono (by simp; omega))⟩
      · have HNM := Lib.hid hnm
        clear hnm
        have hbn : Below w.heap.size w (wr.alloc (.cells #[.string fn, .string fb, .int .i64 fs_] 48)) := hbw.alloc (by omega) _
        cases hlt2 : ltS q fn
        · obtain rfl := HBAD.out (by rw [hlt2, Bool.and_false])
          clear HOK HX HBAD
          have hways : (fn = q) ∨ (fn ≠ q ∧ ltS fn q = true) := by
            by_cases h : fn = q
            · exact .inl h
            · rcases ltS_total h with h1 | h1
              · exact .inr ⟨h, h1⟩
              · rw [h1] at hlt2; cases hlt2
          rcases hways with h | ⟨_, h⟩
          · subst h
            clear hlt2
            go_wp2_with (go_at_call 72; refine (name_any fn true _ HNM.out (by omega)).mono ?_; rintro e w3 ⟨rfl, hb3⟩; obtain ⟨hc3, hf3⟩ := bcell hb3)
            go_ret
            exact ⟨rfl, hbn.trans (hb3.mono (by simp; omega))⟩
          · obtain ⟨z1, _, _, _⟩ := name_less h
            clear hlt2 h
            go_wp2_with (go_at_call 72; refine (name_any fn true _ HNM.out (by omega)).mono ?_; rintro e w3 ⟨rfl, hb3⟩; obtain ⟨hc3, hf3⟩ := bcell hb3)
            go_ret
            exact ⟨rfl, hbn.trans (hb3.mono (by simp; omega))⟩
        · obtain ⟨_, z1, _, z2⟩ := name_less hlt2
          by_cases h0 : fb.size = 0
          · obtain rfl := eq_none.2 h0
            obtain rfl := HBAD.out (by rw [HX.out, decide_eq_false (show ¬ 0 < none_.size by decide), Bool.and_false, Bool.false_and, Bool.false_and])
            have z3 := bare_toList
            unfold none_ at z3 d1 hbn ⊢
            clear HOK HX HBAD hlt2 h0
            go_wp2_with (go_at_call 72; refine (name_any fn true _ HNM.out (by omega)).mono ?_; rintro e w3 ⟨rfl, hb3⟩; obtain ⟨hc3, hf3⟩ := bcell hb3)
            go_ret
            exact ⟨rfl, hbn.trans (hb3.mono (by simp; omega))⟩
          · obtain ⟨z3, z4⟩ := full_ways (s := fb) (by omega)
            by_cases h1 : fs_ < 0
            · obtain rfl := HBAD.out (by rw [HX.out, decide_eq_false (show ¬ (0 ≤ fs_ ∧ fs_ ≤ fb.size) by omega), Bool.and_false, Bool.false_and])
              clear HOK HX HBAD hlt2 h0
              go_wp2_with (go_at_call 72; refine (name_any fn true _ HNM.out (by omega)).mono ?_; rintro e w3 ⟨rfl, hb3⟩; obtain ⟨hc3, hf3⟩ := bcell hb3)
              go_ret
              exact ⟨rfl, hbn.trans (hb3.mono (by simp; omega))⟩
            · by_cases h2 : fs_ ≤ fb.size
              · have HM := Lib.hid (HOK.out (by rw [HX.out, HNM.out, hlt2, decide_eq_true (show 0 < fb.size by omega), decide_eq_true (show 0 ≤ fs_ ∧ fs_ ≤ fb.size by omega)]; rfl))
                clear HOK HX HBAD hlt2 h0
                go_wp2_with (go_at_call 72; refine (name_any fn true _ HNM.out (by omega)).mono ?_; rintro e w3 ⟨rfl, hb3⟩; obtain ⟨hc3, hf3⟩ := bcell hb3)
                go_roundw
                case rel => exact ⟨k + 1, fn, by omega, by go_num, rfl, HM.out, hbn.trans (hb3.mono (by simp; omega))⟩
                case measure => simp [intOf]; omega
              · obtain rfl := HBAD.out (by rw [HX.out, decide_eq_false (show ¬ (0 ≤ fs_ ∧ fs_ ≤ fb.size) by omega), Bool.and_false, Bool.false_and])
                clear HOK HX HBAD hlt2 h0
                go_wp2_with (go_at_call 72; refine (name_any fn true _ HNM.out (by omega)).mono ?_; rintro e w3 ⟨rfl, hb3⟩; obtain ⟨hc3, hf3⟩ := bcell hb3)
                go_ret
                exact ⟨rfl, hbn.trans (hb3.mono (by simp; omega))⟩
    · obtain rfl : 0 = r := by
        rw [← HR.out, HQ.out, List.drop_of_length_le (by have := HN.out; omega)]; rfl
      clear HQ
      go_wp2
      go_ret
      exact ⟨rfl, hbw⟩

set_option maxRecDepth 100000 in
set_option maxHeartbeats 400000 in
theorem check_long (A : Option Addr) (n c B : Nat) (fs : List Fl) (cap left : Int) (down : Bool) (w : World) (hn : fs.length = n) (hs : Seen w B A (fcells fs)) (hB : B ≤ w.heap.size) (_hsm : Small fs) (u : Nat) (hu : used fs = u)
    (h : 64 < n) :
    Calls Tryz.prog 71 #[.agg #[.slice A n c, .int .i64 cap, .int .i64 left, .bool down]] w fun e w' => e = .returned (.int .i64 2) ∧ Below w.heap.size w w' := by
  have HN := Lib.hid hn
  have HU := Lib.hid hu
  clear hn hu
  go_enter Tryz.func71, Tryz.ntmps71
  go_wp2_with fail
  have hx : ∀ (x : After (w.alloc (.cells #[.slice A n c, .int .i64 cap, .int .i64 left, .bool down] 24))) (i : Nat), x.val.cell? ⟨w.heap.size, i, none⟩ = (#[.slice A n c, .int .i64 cap, .int .i64 left, .bool down] : Array Value)[i]? := fun x i => by
    rw [x.below.cell (p := ⟨w.heap.size, i, none⟩) (by simp)]
    exact cell_of_row _ _ i _ 24 (0, 0) (heap_alloc_new w _)
  have hx0 := fun x => hx x 0
  have hx1 := fun x => hx x 1
  have hx2 := fun x => hx x 2
  have hx3 := fun x => hx x 3
  clear hx
  simp at hx0 hx1 hx2 hx3
  refine wp_region_after (by kernel_rfl) (by kernel_rfl) ?_
  have hsx : ∀ x : After (w.alloc (.cells #[.slice A n c, .int .i64 cap, .int .i64 left, .bool down] 24)), Seen x.val B A (fcells fs) := fun x => hs.below (((Below.refl _ _).alloc (Nat.le_refl _) _).trans (x.below.mono (by simp)) |>.mono hB)
  have hBx : ∀ x : After (w.alloc (.cells #[.slice A n c, .int .i64 cap, .int .i64 left, .bool down] 24)), B ≤ x.val.heap.size := fun x => by have := x.below.size; simp at this; omega
  have t1 : decide ((64 : Int) < (n : Int)) = true := decide_eq_true (by omega)
  repeat (go_big_quiet_step (fail))
  refine wpQuiet_nil ?_
  rintro _ ⟨x, rfl⟩
  have hb1 : Below w.heap.size w x.val := ((Below.refl _ _).alloc (Nat.le_refl _) _).trans (x.below.mono (by simp))
  go_wp2
  go_ret
  exact ⟨rfl, hb1⟩

set_option maxRecDepth 100000 in
set_option maxHeartbeats 400000 in
theorem check_low (A : Option Addr) (n c B : Nat) (fs : List Fl) (cap left : Int) (down : Bool) (w : World) (hn : fs.length = n) (hs : Seen w B A (fcells fs)) (hB : B ≤ w.heap.size) (_hsm : Small fs) (u : Nat) (hu : used fs = u)
    (h1 : n ≤ 64) (h : cap < 0) :
    Calls Tryz.prog 71 #[.agg #[.slice A n c, .int .i64 cap, .int .i64 left, .bool down]] w fun e w' => e = .returned (.int .i64 2) ∧ Below w.heap.size w w' := by
  have HN := Lib.hid hn
  have HU := Lib.hid hu
  clear hn hu
  go_enter Tryz.func71, Tryz.ntmps71
  go_wp2_with fail
  have hx : ∀ (x : After (w.alloc (.cells #[.slice A n c, .int .i64 cap, .int .i64 left, .bool down] 24))) (i : Nat), x.val.cell? ⟨w.heap.size, i, none⟩ = (#[.slice A n c, .int .i64 cap, .int .i64 left, .bool down] : Array Value)[i]? := fun x i => by
    rw [x.below.cell (p := ⟨w.heap.size, i, none⟩) (by simp)]
    exact cell_of_row _ _ i _ 24 (0, 0) (heap_alloc_new w _)
  have hx0 := fun x => hx x 0
  have hx1 := fun x => hx x 1
  have hx2 := fun x => hx x 2
  have hx3 := fun x => hx x 3
  clear hx
  simp at hx0 hx1 hx2 hx3
  refine wp_region_after (by kernel_rfl) (by kernel_rfl) ?_
  have hsx : ∀ x : After (w.alloc (.cells #[.slice A n c, .int .i64 cap, .int .i64 left, .bool down] 24)), Seen x.val B A (fcells fs) := fun x => hs.below (((Below.refl _ _).alloc (Nat.le_refl _) _).trans (x.below.mono (by simp)) |>.mono hB)
  have hBx : ∀ x : After (w.alloc (.cells #[.slice A n c, .int .i64 cap, .int .i64 left, .bool down] 24)), B ≤ x.val.heap.size := fun x => by have := x.below.size; simp at this; omega
  have t1 : decide ((64 : Int) < (n : Int)) = false := bool_dec _ (by omega)
  have t2 : decide (cap < 0) = true := decide_eq_true h
  repeat (go_big_quiet_step (fail))
  refine wpQuiet_nil ?_
  rintro _ ⟨x, rfl⟩
  have hb1 : Below w.heap.size w x.val := ((Below.refl _ _).alloc (Nat.le_refl _) _).trans (x.below.mono (by simp))
  go_wp2
  go_ret
  exact ⟨rfl, hb1⟩

set_option maxRecDepth 100000 in
set_option maxHeartbeats 400000 in
theorem check_high (A : Option Addr) (n c B : Nat) (fs : List Fl) (cap left : Int) (down : Bool) (w : World) (hn : fs.length = n) (hs : Seen w B A (fcells fs)) (hB : B ≤ w.heap.size) (_hsm : Small fs) (u : Nat) (hu : used fs = u)
    (h1 : n ≤ 64) (_h2 : 0 ≤ cap) (h : 65536 < cap) :
    Calls Tryz.prog 71 #[.agg #[.slice A n c, .int .i64 cap, .int .i64 left, .bool down]] w fun e w' => e = .returned (.int .i64 2) ∧ Below w.heap.size w w' := by
  have HN := Lib.hid hn
  have HU := Lib.hid hu
  clear hn hu
  go_enter Tryz.func71, Tryz.ntmps71
  go_wp2_with fail
  have hx : ∀ (x : After (w.alloc (.cells #[.slice A n c, .int .i64 cap, .int .i64 left, .bool down] 24))) (i : Nat), x.val.cell? ⟨w.heap.size, i, none⟩ = (#[.slice A n c, .int .i64 cap, .int .i64 left, .bool down] : Array Value)[i]? := fun x i => by
    rw [x.below.cell (p := ⟨w.heap.size, i, none⟩) (by simp)]
    exact cell_of_row _ _ i _ 24 (0, 0) (heap_alloc_new w _)
  have hx0 := fun x => hx x 0
  have hx1 := fun x => hx x 1
  have hx2 := fun x => hx x 2
  have hx3 := fun x => hx x 3
  clear hx
  simp at hx0 hx1 hx2 hx3
  refine wp_region_after (by kernel_rfl) (by kernel_rfl) ?_
  have hsx : ∀ x : After (w.alloc (.cells #[.slice A n c, .int .i64 cap, .int .i64 left, .bool down] 24)), Seen x.val B A (fcells fs) := fun x => hs.below (((Below.refl _ _).alloc (Nat.le_refl _) _).trans (x.below.mono (by simp)) |>.mono hB)
  have hBx : ∀ x : After (w.alloc (.cells #[.slice A n c, .int .i64 cap, .int .i64 left, .bool down] 24)), B ≤ x.val.heap.size := fun x => by have := x.below.size; simp at this; omega
  have t1 : decide ((64 : Int) < (n : Int)) = false := bool_dec _ (by omega)
  have t2 : decide (cap < 0) = false := bool_dec _ (by omega)
  have t3 : decide ((65536 : Int) < cap) = true := decide_eq_true h
  repeat (go_big_quiet_step (fail))
  refine wpQuiet_nil ?_
  rintro _ ⟨x, rfl⟩
  have hb1 : Below w.heap.size w x.val := ((Below.refl _ _).alloc (Nat.le_refl _) _).trans (x.below.mono (by simp))
  go_wp2
  go_ret
  exact ⟨rfl, hb1⟩

set_option maxRecDepth 100000 in
set_option maxHeartbeats 400000 in
theorem check_full (A : Option Addr) (n c B : Nat) (fs : List Fl) (cap left : Int) (down : Bool) (w : World) (hn : fs.length = n) (hs : Seen w B A (fcells fs)) (hB : B ≤ w.heap.size) (hsm : Small fs) (u : Nat) (hu : used fs = u)
    (h1 : n ≤ 64) (h2 : 0 ≤ cap) (h3 : cap ≤ 65536) (h : cap < (u : Int)) :
    Calls Tryz.prog 71 #[.agg #[.slice A n c, .int .i64 cap, .int .i64 left, .bool down]] w fun e w' => e = .returned (.int .i64 2) ∧ Below w.heap.size w w' := by
  have HN := Lib.hid hn
  have HU := Lib.hid hu
  clear hn hu
  go_enter Tryz.func71, Tryz.ntmps71
  go_wp2_with fail
  have hx : ∀ (x : After (w.alloc (.cells #[.slice A n c, .int .i64 cap, .int .i64 left, .bool down] 24))) (i : Nat), x.val.cell? ⟨w.heap.size, i, none⟩ = (#[.slice A n c, .int .i64 cap, .int .i64 left, .bool down] : Array Value)[i]? := fun x i => by
    rw [x.below.cell (p := ⟨w.heap.size, i, none⟩) (by simp)]
    exact cell_of_row _ _ i _ 24 (0, 0) (heap_alloc_new w _)
  have hx0 := fun x => hx x 0
  have hx1 := fun x => hx x 1
  have hx2 := fun x => hx x 2
  have hx3 := fun x => hx x 3
  clear hx
  simp at hx0 hx1 hx2 hx3
  refine wp_region_after (by kernel_rfl) (by kernel_rfl) ?_
  have hsx : ∀ x : After (w.alloc (.cells #[.slice A n c, .int .i64 cap, .int .i64 left, .bool down] 24)), Seen x.val B A (fcells fs) := fun x => hs.below (((Below.refl _ _).alloc (Nat.le_refl _) _).trans (x.below.mono (by simp)) |>.mono hB)
  have hBx : ∀ x : After (w.alloc (.cells #[.slice A n c, .int .i64 cap, .int .i64 left, .bool down] 24)), B ≤ x.val.heap.size := fun x => by have := x.below.size; simp at this; omega
  have t1 : decide ((64 : Int) < (n : Int)) = false := bool_dec _ (by omega)
  have t2 : decide (cap < 0) = false := bool_dec _ (by omega)
  have t3 : decide ((65536 : Int) < cap) = false := bool_dec _ (by omega)
  have t4 : decide (cap < (u : Int)) = true := decide_eq_true h
  repeat (go_big_quiet_step ((go_at_call 60; exact Calls.after (used_any A n c B fs cap left down u _ HN.out HU.out (hsx _) (hBx _) hsm))))
  refine wpQuiet_nil ?_
  rintro _ ⟨x, rfl⟩
  have hb1 : Below w.heap.size w x.val := ((Below.refl _ _).alloc (Nat.le_refl _) _).trans (x.below.mono (by simp))
  go_wp2
  go_ret
  exact ⟨rfl, hb1⟩

theorem check_any (A : Option Addr) (n c B : Nat) (fs : List Fl) (cap left : Int) (down : Bool) (r : Int) (w : World) (hn : fs.length = n) (hr : code (check ⟨fs, cap, left, down⟩) = r) (hs : Seen w B A (fcells fs)) (hB : B ≤ w.heap.size) (hsm : Small fs) :
    Calls Tryz.prog 71 #[.agg #[.slice A n c, .int .i64 cap, .int .i64 left, .bool down]] w fun e w' => e = .returned (.int .i64 r) ∧ Below w.heap.size w w' := by
  by_cases h1 : n ≤ 64
  · by_cases h2 : 0 ≤ cap
    · by_cases h3 : cap ≤ 65536
      · by_cases h4 : ((used fs : Nat) : Int) ≤ cap
        · exact check_loop A n c B fs cap left down r w hn hr hs hB hsm h1 h2 h3 _ rfl h4
        · obtain rfl : 2 = r := by rw [← hr, check_off (fun h => h4 h.2.2.2)]; rfl
          exact check_full A n c B fs cap left down w hn hs hB hsm _ rfl h1 h2 h3 (by omega)
      · obtain rfl : 2 = r := by rw [← hr, check_off (fun h => h3 h.2.2.1)]; rfl
        exact check_high A n c B fs cap left down w hn hs hB hsm _ rfl h1 h2 (by omega)
    · obtain rfl : 2 = r := by rw [← hr, check_off (fun h => h2 h.2.1)]; rfl
      exact check_low A n c B fs cap left down w hn hs hB hsm _ rfl h1 (by omega)
  · obtain rfl : 2 = r := by rw [← hr, check_off (fun h => h1 (by simpa [hn] using h.1))]; rfl
    exact check_long A n c B fs cap left down w hn hs hB hsm _ rfl (by omega)

end Go.Proofs.YtpppeadmhfggkaaGreatDoor
