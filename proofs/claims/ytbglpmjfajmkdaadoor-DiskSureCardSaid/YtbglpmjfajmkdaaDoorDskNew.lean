/-
  Contracts of New, Arm, put, Great and GreatWrites: what each returns and what it does to memory. Conditions: those that each theorem names.
-/
import Derived.Test.YtbglpmjfajmkdaaDoorDskDo
namespace Go.Proofs.YtbglpmjfajmkdaaDoor
open Go.RowKit DP

theorem new_any (most cap' left' : Int) (fs' : List Fl) (down' : Bool) (r : Int) (w : World) (hr : new most = (⟨fs', cap', left', down'⟩, r)) :
    Calls Tryd.prog 19 #[.int .i64 most] w (DiskRes fs' cap' left' down' r w) := by
  unfold new at hr
  by_cases h : most < 0 ∨ 65536 < most
  · rw [if_pos h] at hr
    simp only [noDisk, Prod.mk.injEq, Dk.mk.injEq] at hr
    obtain ⟨⟨rfl, rfl, rfl, rfl⟩, rfl⟩ := hr
    rcases h with h | h
    · go_enter Tryd.func19, Tryd.ntmps19
      go_wp2
      exact bodyPost_ret (v := .tuple #[.agg #[.slice none 0 0, .int .i64 0, .int .i64 0, .bool false], .int .i64 2]) (by simp [results, Tryd.results19, go_sem]) rfl ⟨none, 0, 0, rfl, rfl, Seen.nil _ _ _, Nat.le_refl _, (Below.refl _ _).alloc (Nat.le_refl _) _⟩
    · have h0 : 0 ≤ most := by omega
      go_enter Tryd.func19, Tryd.ntmps19
      go_wp2
      exact bodyPost_ret (v := .tuple #[.agg #[.slice none 0 0, .int .i64 0, .int .i64 0, .bool false], .int .i64 2]) (by simp [results, Tryd.results19, go_sem]) rfl ⟨none, 0, 0, rfl, rfl, Seen.nil _ _ _, Nat.le_refl _, (Below.refl _ _).alloc (Nat.le_refl _) _⟩
  · rw [if_neg h] at hr
    simp only [Prod.mk.injEq, Dk.mk.injEq] at hr
    obtain ⟨⟨rfl, rfl, rfl, rfl⟩, rfl⟩ := hr
    have h0 : 0 ≤ most := by omega
    have h1 : most ≤ 65536 := by omega
    have h2 : decide ((65536 : Int) < most) = false := bool_dec _ (by omega)
    clear h
    go_enter Tryd.func19, Tryd.ntmps19
    go_wp2
    exact bodyPost_ret (v := .tuple #[.agg #[.slice none 0 0, .int .i64 most, .int .i64 (-1), .bool false], .int .i64 0]) (by simp [results, Tryd.results19, go_sem]) rfl ⟨none, 0, 0, rfl, rfl, Seen.nil _ _ _, Nat.le_refl _, (Below.refl _ _).alloc (Nat.le_refl _) _⟩

set_option maxRecDepth 100000 in
set_option maxHeartbeats 1000000 in
theorem arm_invalid (A : Option Addr) (n c B : Nat) (fs : List Fl) (cap left k : Int) (down : Bool) (w : World) (hn : fs.length = n) (hs : Seen w B A (fcells fs)) (hB : B ≤ w.heap.size) (hsm : Small fs) (hc : check ⟨fs, cap, left, down⟩ = false) :
    Calls Tryd.prog 15 #[.agg #[.slice A n c, .int .i64 cap, .int .i64 left, .bool down], .int .i64 k] w (DiskRes [] 0 0 false 2 w) := by
  have HN := Lib.hid hn
  have HC := Lib.hid hc
  clear hn hc
  go_enter Tryd.func15, Tryd.ntmps15
  go_wp2_with fail
  have hvs := new2 w #[.slice A n c, .int .i64 cap, .int .i64 left, .bool down] #[.slice none 0 0, .int .i64 0, .int .i64 0, .bool false] 24 24
  have hbs := bel2 w #[.slice A n c, .int .i64 cap, .int .i64 left, .bool down] #[.slice none 0 0, .int .i64 0, .int .i64 0, .bool false] 24 24
  refine (own_no A n c B fs cap left down _ HN.out HC.out hsm (hs.below (hbs.mono hB)) (by simp; omega)).mono ?_
  rintro e w1 ⟨rfl, hb1⟩
  have v1 := Var.below hvs.1 hb1 (by simp; omega)
  have v3 := Var.below hvs.2 hb1 (by simp)
  have hb1' : Below w.heap.size w w1 := hbs.trans (hb1.mono (by simp; omega))
  clear hvs hbs hb1
  obtain ⟨d0, d1, d2, d3, f1⟩ := v1.cells4
  obtain ⟨e0, e1, e2, e3, f3⟩ := v3.cells4
  go_wp2
  refine bodyPost_ret (v := .tuple #[.agg #[.slice none 0 0, .int .i64 0, .int .i64 0, .bool false], .int .i64 2]) (by simp [results, Tryd.results15, go_sem, e0, e1, e2, e3]) rfl ⟨none, 0, 0, rfl, rfl, Seen.nil _ _ _, Nat.le_refl _, ?_⟩
  repeat (first | with_reducible exact hb1' | refine Below.setCell ?_ (by simp; omega) _ | refine Below.setCell ?_ (by simp) _)

set_option maxRecDepth 100000 in
set_option maxHeartbeats 1000000 in
theorem arm_low (A : Option Addr) (n c B : Nat) (fs : List Fl) (cap left k : Int) (down : Bool) (w : World) (hn : fs.length = n) (hs : Seen w B A (fcells fs)) (hB : B ≤ w.heap.size) (hc : check ⟨fs, cap, left, down⟩ = true) (hk : k < -1) :
    Calls Tryd.prog 15 #[.agg #[.slice A n c, .int .i64 cap, .int .i64 left, .bool down], .int .i64 k] w (DiskRes fs cap (-1) down 0 w) := by
  have HN := Lib.hid hn
  have HC := Lib.hid hc
  clear hn hc
  go_enter Tryd.func15, Tryd.ntmps15
  go_wp2_with fail
  have hvs := new2 w #[.slice A n c, .int .i64 cap, .int .i64 left, .bool down] #[.slice none 0 0, .int .i64 0, .int .i64 0, .bool false] 24 24
  have hbs := bel2 w #[.slice A n c, .int .i64 cap, .int .i64 left, .bool down] #[.slice none 0 0, .int .i64 0, .int .i64 0, .bool false] 24 24
  refine (own_yes A n c B fs cap left down _ HN.out HC.out (hs.below (hbs.mono hB)) (by simp; omega)).mono ?_
  rintro e w1 ⟨A1, c1, rfl, hown, hb1⟩
  have v1 := Var.below hvs.1 hb1 (by simp; omega)
  have v3 := Var.below hvs.2 hb1 (by simp)
  have hb1' : Below w.heap.size w w1 := hbs.trans (hb1.mono (by simp; omega))
  obtain ⟨hs1, hnc⟩ := Seen.of_own3 hown
  have ha1 := seen_apart hs1 v1 disk_noText
  have ha3 := seen_apart hs1 v3 disk_noText
  clear hvs hbs hb1 hown
  obtain ⟨d0, d1, d2, d3, f1⟩ := v1.cells4
  obtain ⟨e0, e1, e2, e3, f3⟩ := v3.cells4
  go_upto_region 4 with fail
  obtain ⟨w2, hw2⟩ : ∃ w2, w2 = (((w1.setCell ⟨w.heap.size, 0, none⟩ (.slice A1 n c1)).setCell ⟨w.heap.size, 1, none⟩ (.int .i64 cap)).setCell ⟨w.heap.size, 2, none⟩ (.int .i64 left)).setCell ⟨w.heap.size, 3, none⟩ (.bool down) := ⟨_, rfl⟩
  have u1 : Var w2 w.heap.size 24 #[.slice A1 n c1, .int .i64 cap, .int .i64 left, .bool down] := by rw [hw2]; exact set4_var v1
  have u3 : Var w2 (w.heap.size + 1) 24 #[.slice none 0 0, .int .i64 0, .int .i64 0, .bool false] := by rw [hw2]; exact set4_other v3 (by omega)
  have hs2 : Seen w2 w2.heap.size A1 (fcells fs) := by rw [hw2]; exact ((((hs1.off ha1).off ha1).off ha1).off ha1).up (by simp)
  have hb2 : Below w.heap.size w w2 := by rw [hw2]; exact hb1'.trans (set4_below (Nat.le_refl _))
  rw [← hw2]
  clear hw2 d0 d1 d2 d3 f1 e0 e1 e2 e3 f3 v1 v3 hs1 ha1 ha3 hb1'
  have ha1 := seen_apart hs2 u1 disk_noText
  have ha3 := seen_apart hs2 u3 disk_noText
  obtain ⟨d0, d1, d2, d3, f1⟩ := u1.cells4
  obtain ⟨e0, e1, e2, e3, f3⟩ := u3.cells4
  go_wp2_with fail
  have hmax : max k (-1) = -1 := by omega
  refine bodyPost_ret (v := .tuple #[.agg #[.slice A1 n c1, .int .i64 cap, .int .i64 (-1), .bool down], .int .i64 0]) (by simp [results, Tryd.results15, go_sem, e0, e1, e2, e3, hmax]) rfl ⟨A1, n, c1, rfl, HN.out, ?_, hnc, ?_⟩
  · exact (((((hs2.off ha1).off ha3).off ha3).off ha3).off ha3).up (by simp)
  · repeat (first | with_reducible exact hb2 | refine Below.setCell ?_ (by simp; omega) _ | refine Below.setCell ?_ (by simp) _)

set_option maxRecDepth 100000 in
set_option maxHeartbeats 1000000 in
theorem arm_at (A : Option Addr) (n c B : Nat) (fs : List Fl) (cap left k : Int) (down : Bool) (w : World) (hn : fs.length = n) (hs : Seen w B A (fcells fs)) (hB : B ≤ w.heap.size) (hc : check ⟨fs, cap, left, down⟩ = true) (hk : -1 ≤ k) :
    Calls Tryd.prog 15 #[.agg #[.slice A n c, .int .i64 cap, .int .i64 left, .bool down], .int .i64 k] w (DiskRes fs cap k down 0 w) := by
  have HN := Lib.hid hn
  have HC := Lib.hid hc
  clear hn hc
  go_enter Tryd.func15, Tryd.ntmps15
  go_wp2_with fail
  have hvs := new2 w #[.slice A n c, .int .i64 cap, .int .i64 left, .bool down] #[.slice none 0 0, .int .i64 0, .int .i64 0, .bool false] 24 24
  have hbs := bel2 w #[.slice A n c, .int .i64 cap, .int .i64 left, .bool down] #[.slice none 0 0, .int .i64 0, .int .i64 0, .bool false] 24 24
  refine (own_yes A n c B fs cap left down _ HN.out HC.out (hs.below (hbs.mono hB)) (by simp; omega)).mono ?_
  rintro e w1 ⟨A1, c1, rfl, hown, hb1⟩
  have v1 := Var.below hvs.1 hb1 (by simp; omega)
  have v3 := Var.below hvs.2 hb1 (by simp)
  have hb1' : Below w.heap.size w w1 := hbs.trans (hb1.mono (by simp; omega))
  obtain ⟨hs1, hnc⟩ := Seen.of_own3 hown
  have ha1 := seen_apart hs1 v1 disk_noText
  have ha3 := seen_apart hs1 v3 disk_noText
  clear hvs hbs hb1 hown
  obtain ⟨d0, d1, d2, d3, f1⟩ := v1.cells4
  obtain ⟨e0, e1, e2, e3, f3⟩ := v3.cells4
  go_upto_region 4 with fail
  obtain ⟨w2, hw2⟩ : ∃ w2, w2 = (((w1.setCell ⟨w.heap.size, 0, none⟩ (.slice A1 n c1)).setCell ⟨w.heap.size, 1, none⟩ (.int .i64 cap)).setCell ⟨w.heap.size, 2, none⟩ (.int .i64 left)).setCell ⟨w.heap.size, 3, none⟩ (.bool down) := ⟨_, rfl⟩
  have u1 : Var w2 w.heap.size 24 #[.slice A1 n c1, .int .i64 cap, .int .i64 left, .bool down] := by rw [hw2]; exact set4_var v1
  have u3 : Var w2 (w.heap.size + 1) 24 #[.slice none 0 0, .int .i64 0, .int .i64 0, .bool false] := by rw [hw2]; exact set4_other v3 (by omega)
  have hs2 : Seen w2 w2.heap.size A1 (fcells fs) := by rw [hw2]; exact ((((hs1.off ha1).off ha1).off ha1).off ha1).up (by simp)
  have hb2 : Below w.heap.size w w2 := by rw [hw2]; exact hb1'.trans (set4_below (Nat.le_refl _))
  rw [← hw2]
  clear hw2 d0 d1 d2 d3 f1 e0 e1 e2 e3 f3 v1 v3 hs1 ha1 ha3 hb1'
  have ha1 := seen_apart hs2 u1 disk_noText
  have ha3 := seen_apart hs2 u3 disk_noText
  obtain ⟨d0, d1, d2, d3, f1⟩ := u1.cells4
  obtain ⟨e0, e1, e2, e3, f3⟩ := u3.cells4
  go_wp2_with fail
  have hmax : max k (-1) = k := by omega
  refine bodyPost_ret (v := .tuple #[.agg #[.slice A1 n c1, .int .i64 cap, .int .i64 k, .bool down], .int .i64 0]) (by simp [results, Tryd.results15, go_sem, e0, e1, e2, e3, hmax]) rfl ⟨A1, n, c1, rfl, HN.out, ?_, hnc, ?_⟩
  · exact (((((hs2.off ha1).off ha3).off ha3).off ha3).off ha3).up (by simp)
  · repeat (first | with_reducible exact hb2 | refine Below.setCell ?_ (by simp; omega) _ | refine Below.setCell ?_ (by simp) _)

/-- put. -/
theorem put_any (name b : ByteArray) (w : World) : Calls Tryd.prog 32 #[.string name, .string b] w fun e w' => e = .returned (.agg #[.int .i8 0, .string name, .string b, .int .i64 0]) ∧ Below w.heap.size w w' := by
  go_enter Tryd.func32, Tryd.ntmps32
  go_wp2
  exact bodyPost_ret (v := .agg #[.int .i8 0, .string name, .string b, .int .i64 0]) (by simp [results, Tryd.results32, go_sem]) rfl ⟨rfl, (Below.refl _ _).alloc (Nat.le_refl _) _⟩

theorem arm_any (A : Option Addr) (n c B : Nat) (fs fs' : List Fl) (cap left k cap' left' : Int) (down down' : Bool) (r : Int) (w : World) (hn : fs.length = n) (hs : Seen w B A (fcells fs)) (hB : B ≤ w.heap.size) (hsm : Small fs)
    (hr : arm ⟨fs, cap, left, down⟩ k = (⟨fs', cap', left', down'⟩, r)) :
    Calls Tryd.prog 15 #[.agg #[.slice A n c, .int .i64 cap, .int .i64 left, .bool down], .int .i64 k] w (DiskRes fs' cap' left' down' r w) := by
  unfold arm at hr
  cases hc : check ⟨fs, cap, left, down⟩
  · rw [if_pos hc] at hr
    simp only [noDisk, Prod.mk.injEq, Dk.mk.injEq] at hr
    obtain ⟨⟨rfl, rfl, rfl, rfl⟩, rfl⟩ := hr
    exact arm_invalid A n c B fs cap left k down w hn hs hB hsm hc
  · rw [if_neg (by rw [hc]; simp)] at hr
    simp only [Prod.mk.injEq, Dk.mk.injEq] at hr
    obtain ⟨⟨rfl, rfl, rfl, rfl⟩, rfl⟩ := hr
    by_cases hk : k < -1
    · rw [show max k (-1) = -1 by omega]
      exact arm_low A n c B fs cap left k down w hn hs hB hc hk
    · rw [show max k (-1) = k by omega]
      exact arm_at A n c B fs cap left k down w hn hs hB hc (by omega)

/-! ### what is too great -/
theorem any_step {α : Type} (l : List α) (k : Nat) (x : α) (h : l[k]? = some x) (p : α → Bool) : (l.take (k + 1)).any p = ((l.take k).any p || p x) := by
  obtain ⟨hk, he⟩ := List.getElem?_eq_some_iff.1 h
  rw [List.take_succ_eq_append_getElem hk, List.any_append, he]; simp

set_option maxRecDepth 100000 in
set_option maxHeartbeats 400000 in
theorem great_any (A : Option Addr) (n c B : Nat) (fs : List Fl) (cap left : Int) (down b : Bool) (w : World) (hn : fs.length = n) (hb : great ⟨fs, cap, left, down⟩ = b) (hs : Seen w B A (fcells fs)) (hB : B ≤ w.heap.size) (hmax : n ≤ 9223372036854775807)
    (hsz : ∀ f ∈ fs, f.b.size ≤ 9223372036854775807 ∧ f.n.size ≤ 9223372036854775807) :
    Calls Tryd.prog 9 #[.agg #[.slice A n c, .int .i64 cap, .int .i64 left, .bool down]] w fun e w' => e = .returned (.bool b) ∧ Below w.heap.size w w' := by
  have HN := Lib.hid hn
  have HB : Hid ((decide (100 < n) || fs.any greatF) = b) := by show _ = _; rw [← hb, ← hn]; rfl
  clear hn hb
  by_cases h100 : 100 < n
  · obtain rfl : true = b := by rw [← HB.out, decide_eq_true h100, Bool.true_or]
    go_enter Tryd.func9, Tryd.ntmps9
    go_wp2
    go_ret
    exact ⟨rfl, (Below.refl _ _).alloc (Nat.le_refl _) _⟩
  · have h100' : n ≤ 100 := by omega
    have HA : Hid (fs.any greatF = b) := by show _ = _; rw [← HB.out, decide_eq_false h100, Bool.false_or]
    clear HB h100
    go_enter Tryd.func9, Tryd.ntmps9
    go_wp2
    go_loop [3] (fun i => ∃ k : Nat, k ≤ n ∧ i = .int .i64 k ∧ (fs.take k).any greatF = false) (fun i => n - (intOf i).toNat)
    case atStart => exact ⟨0, by omega, rfl, by simp⟩
    case round =>
      obtain ⟨k, hk, rfl, hall⟩ := hrel
      have HL := Lib.hid hall
      clear hall
      by_cases hlt : k < n
      · obtain ⟨f, hf⟩ := file_here HN.out hlt
        obtain ⟨hs1, hs2⟩ := hsz f (List.mem_of_getElem? hf)
        obtain ⟨bb, off, rfl, hbb, d0, d1, d2⟩ := file_at hs hf
        have hbw : bb < w.heap.size := by omega
        have HS := Lib.hid (any_step fs k f hf greatF)
        have HBAD : Hid (greatF f = true → true = b) := fun h => by rw [← HA.out]; symm; rw [List.any_eq_true]; exact ⟨f, List.mem_of_getElem? hf, h⟩
        obtain ⟨fn, fb, s⟩ := f
        simp only at hs1 hs2 d0 d1 d2
        clear hf
        by_cases hb1 : 131072 < fb.size
        · obtain rfl := HBAD.out (by unfold greatF; rw [decide_eq_true hb1, Bool.true_or])
          clear HBAD HS
          go_wp2
          go_ret
          exact ⟨rfl, (Below.refl _ _).alloc (Nat.le_refl _) _⟩
        · by_cases hb2 : 100 < fn.size
          · obtain rfl := HBAD.out (by unfold greatF; rw [decide_eq_true hb2, Bool.or_true])
            have t1 : decide ((131072 : Int) < (fb.size : Int)) = false := bool_dec _ (by omega)
            clear HBAD HS
            go_wp2
            go_ret
            exact ⟨rfl, (Below.refl _ _).alloc (Nat.le_refl _) _⟩
          · have HM : Hid ((fs.take (k + 1)).any greatF = false) := by
              show _ = _
              rw [HS.out, HL.out, Bool.false_or]
              unfold greatF
              rw [decide_eq_false hb1, decide_eq_false hb2]; rfl
            have t1 : decide ((131072 : Int) < (fb.size : Int)) = false := bool_dec _ (by omega)
            have t2 : decide ((100 : Int) < (fn.size : Int)) = false := bool_dec _ (by omega)
            clear HBAD HS
            go_wp2
            go_round
            case rel => exact ⟨k + 1, by omega, by go_num, HM.out⟩
            case measure => simp [intOf]; omega
      · obtain rfl : false = b := by rw [← HA.out, ← HL.out, List.take_of_length_le (by have := HN.out; omega)]
        clear HL
        go_wp2
        go_ret
        exact ⟨rfl, (Below.refl _ _).alloc (Nat.le_refl _) _⟩

end Go.Proofs.YtbglpmjfajmkdaaDoor
