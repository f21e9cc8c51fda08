/-
  Contracts of New, Arm, put, Great and GreatWrites: what each returns and what it does to memory. Conditions: those that each theorem names.
-/
import Derived.Test.YtpppeadmhfggkaaGreatDoorDskDo
namespace Go.Proofs.YtpppeadmhfggkaaGreatDoor
open Go.RowKit DP

theorem new_any (most cap' left' : Int) (fs' : List Fl) (down' : Bool) (r : Int) (w : World) (hr : new most = (⟨fs', cap', left', down'⟩, r)) :
    Calls Tryz.prog 17 #[.int .i64 most] w (DiskRes fs' cap' left' down' r w) := by
  unfold new at hr
  by_cases h : most < 0 ∨ 65536 < most
  · rw [if_pos h] at hr
    simp only [noDisk, Prod.mk.injEq, Dk.mk.injEq] at hr
    obtain ⟨⟨rfl, rfl, rfl, rfl⟩, rfl⟩ := hr
    rcases h with h | h
    · go_enter Tryz.func17, Tryz.ntmps17
      go_wp2
      exact bodyPost_ret (v := .tuple #[.agg #[.slice none 0 0, .int .i64 0, .int .i64 0, .bool false], .int .i64 2]) (by simp [results, Tryz.results17, go_sem]) rfl ⟨none, 0, 0, rfl, rfl, Seen.nil _ _ _, Nat.le_refl _, (Below.refl _ _).alloc (Nat.le_refl _) _⟩
    · have h0 : 0 ≤ most := by omega
      go_enter Tryz.func17, Tryz.ntmps17
      go_wp2
      exact bodyPost_ret (v := .tuple #[.agg #[.slice none 0 0, .int .i64 0, .int .i64 0, .bool false], .int .i64 2]) (by simp [results, Tryz.results17, go_sem]) rfl ⟨none, 0, 0, rfl, rfl, Seen.nil _ _ _, Nat.le_refl _, (Below.refl _ _).alloc (Nat.le_refl _) _⟩
  · rw [if_neg h] at hr
    simp only [Prod.mk.injEq, Dk.mk.injEq] at hr
    obtain ⟨⟨rfl, rfl, rfl, rfl⟩, rfl⟩ := hr
    have h0 : 0 ≤ most := by omega
    have h1 : most ≤ 65536 := by omega
    have h2 : decide ((65536 : Int) < most) = false := bool_dec _ (by omega)
    clear h
    go_enter Tryz.func17, Tryz.ntmps17
    go_wp2
    exact bodyPost_ret (v := .tuple #[.agg #[.slice none 0 0, .int .i64 most, .int .i64 (-1), .bool false], .int .i64 0]) (by simp [results, Tryz.results17, go_sem]) rfl ⟨none, 0, 0, rfl, rfl, Seen.nil _ _ _, Nat.le_refl _, (Below.refl _ _).alloc (Nat.le_refl _) _⟩

/-! ### what is too great -/
theorem any_step {α : Type} (l : List α) (k : Nat) (x : α) (h : l[k]? = some x) (p : α → Bool) : (l.take (k + 1)).any p = ((l.take k).any p || p x) := by
  obtain ⟨hk, he⟩ := List.getElem?_eq_some_iff.1 h
  rw [List.take_succ_eq_append_getElem hk, List.any_append, he]; simp

set_option maxRecDepth 100000 in
set_option maxHeartbeats 400000 in
theorem great_any (A : Option Addr) (n c B : Nat) (fs : List Fl) (cap left : Int) (down b : Bool) (w : World) (hn : fs.length = n) (hb : great ⟨fs, cap, left, down⟩ = b) (hs : Seen w B A (fcells fs)) (hB : B ≤ w.heap.size) (hmax : n ≤ 9223372036854775807)
    (hsz : ∀ f ∈ fs, f.b.size ≤ 9223372036854775807 ∧ f.n.size ≤ 9223372036854775807) :
    Calls Tryz.prog 5 #[.agg #[.slice A n c, .int .i64 cap, .int .i64 left, .bool down]] w fun e w' => e = .returned (.bool b) ∧ Below w.heap.size w w' := by
  have HN := Lib.hid hn
  have HB : Hid ((decide (100 < n) || fs.any greatF) = b) := by show _ = _; rw [← hb, ← hn]; rfl
  clear hn hb
  by_cases h100 : 100 < n
  · obtain rfl : true = b := by rw [← HB.out, decide_eq_true h100, Bool.true_or]
    go_enter Tryz.func5, Tryz.ntmps5
    go_wp2
    go_ret
    exact ⟨rfl, (Below.refl _ _).alloc (Nat.le_refl _) _⟩
  · have h100' : n ≤ 100 := by omega
    have HA : Hid (fs.any greatF = b) := by show _ = _; rw [← HB.out, decide_eq_false h100, Bool.false_or]
    clear HB h100
    go_enter Tryz.func5, Tryz.ntmps5
    go_wp2
    go_loop [3] (fun i => ∃ k : Nat, k ≤ n ∧ i = .int .i64 k ∧ (fs.take k).any greatF = false) (fun i => n - (intOf i).toNat)
    case atStart => exact ⟨0, by omega, rfl, by simp⟩
    case round =>
      obtain ⟨k, hk, rfl, hall⟩ := hrel
      have HL := Lib.hid hall
      clear hall
      by_cases hlt : k < n
      · obtain ⟨f, hf⟩ := file_here HN.out hlt
        obtain ⟨hs1, hs2⟩ := hsz f (List.mem_of_getElem? hf)
        obtain ⟨bb, off, rfl, hbb, d0, d1, d2⟩ := file_at hs hf
        have hbw : bb < w.heap.size := by omega
        have HS := Lib.hid (any_step fs k f hf greatF)
        have HBAD : Hid (greatF f = true → true = b) := fun h => by rw [← HA.out]; symm; rw [List.any_eq_true]; exact ⟨f, List.mem_of_getElem? hf, h⟩
        obtain ⟨fn, fb, s⟩ := f
        simp only at hs1 hs2 d0 d1 d2
        clear hf
        by_cases hb1 : 131072 < fb.size
        · obtain rfl := HBAD.out (by unfold greatF; rw [decide_eq_true hb1, Bool.true_or])
          clear HBAD HS
          go_wp2
          go_ret
          exact ⟨rfl, (Below.refl _ _).alloc (Nat.le_refl _) _⟩
        · by_cases hb2 : 100 < fn.size
          · obtain rfl := HBAD.out (by unfold greatF; rw [decide_eq_true hb2, Bool.or_true])
            have t1 : decide ((131072 : Int) < (fb.size : Int)) = false := bool_dec _ (by omega)
            clear HBAD HS
            go_wp2
            go_ret
            exact ⟨rfl, (Below.refl _ _).alloc (Nat.le_refl _) _⟩
          · have HM : Hid ((fs.take (k + 1)).any greatF = false) := by
              show _ = _
              rw [HS.out, HL.out, Bool.false_or]
              unfold greatF
              rw [decide_eq_false hb1, decide_eq_false hb2]; rfl
            have t1 : decide ((131072 : Int) < (fb.size : Int)) = false := bool_dec _ (by omega)
            have t2 : decide ((100 : Int) < (fn.size : Int)) = false := bool_dec _ (by omega)
            clear HBAD HS
            go_wp2
            go_round
            case rel => exact ⟨k + 1, by omega, by go_num, HM.out⟩
            case measure => simp [intOf]; omega
      · obtain rfl : false = b := by rw [← HA.out, ← HL.out, List.take_of_length_le (by have := HN.out; omega)]
        clear HL
        go_wp2
        go_ret
        exact ⟨rfl, (Below.refl _ _).alloc (Nat.le_refl _) _⟩

end Go.Proofs.YtpppeadmhfggkaaGreatDoor
