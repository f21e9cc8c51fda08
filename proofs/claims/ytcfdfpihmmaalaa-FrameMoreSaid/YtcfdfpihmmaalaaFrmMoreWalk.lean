/-
  The walk over FrameMore: it returns true and turns nothing that was there. Condition: the strings' lengths.
-/
import Derived.Test.YtcfdfpihmmaalaaFrmAny
namespace Go.Proofs.Ytcfdfpihmmaalaa
open Go.RowKit

set_option maxRecDepth 100000 in
theorem more_long (load b : ByteArray) (w : World) (h : 6000 < load.size + b.size) (hl : load.size ≤ 140737488351232) (hb : b.size ≤ 140737488351232) :
    Calls Try.prog 5 #[.string load, .string b] w fun e w' => e = .returned (.bool true) ∧ Below w.heap.size w w' := by
  go_enter Try.func5, Try.ntmps5
  go_wp2_with fail
  refine (wakes_any _).mono ?_
  rintro e w1 ⟨rfl, hb⟩
  go_wp2
  go_ret
  exact ⟨rfl, hb⟩

set_option maxRecDepth 100000 in
set_option maxHeartbeats 2000000 in
theorem more_in (load b : ByteArray) (w : World) (h : load.size + b.size ≤ 6000) :
    Calls Try.prog 5 #[.string load, .string b] w fun e w' => e = .returned (.bool true) ∧ Below w.heap.size w w' := by
  obtain ⟨rs, hrs⟩ : ∃ rs, rs = FP.rows (bytesOf b) := ⟨_, rfl⟩
  obtain ⟨k, hk⟩ : ∃ k, k = rs.length := ⟨_, rfl⟩
  obtain ⟨t, ht⟩ : ∃ t, t = FP.torn (bytesOf b) := ⟨_, rfl⟩
  have hr := rows_most b (m := 6000) (by omega)
  have hsum := FP.torn_sum (bytesOf b)
  rw [bytesOf_length, ← ht, ← hrs] at hsum
  have ha := fun W => all_any b (by omega) W
  rw [← hrs, ← hk] at hr
  rw [← hrs, ← hk, ← ht] at ha
  have htm : t ≤ 6000 := by omega
  have HSUM := Lib.hid hsum
  have HA := Lib.hid ha
  have HK := Lib.hid hk
  have HRS := Lib.hid hrs
  have HT := Lib.hid ht
  clear ha hrs hk ht hsum
  go_enter Try.func5, Try.ntmps5
  go_wp2_with fail
  refine (HA.out _).mono ?_
  rintro e w1 ⟨A1, c1, rfl, hs1, hc1, h1⟩
  go_wp2_with fail
  go_loop [7, 8] (fun n i => ∃ j : Nat, j ≤ k ∧ i = .int .i64 (j : Int) ∧ n = .int .i64 ((t + FP.sum (rs.take j) : Nat) : Int)) (fun _ i => k - (intOf i).toNat)
  case atStart => exact ⟨0, by omega, rfl, rfl⟩
  case round =>
    obtain ⟨j, hj, rfl, hn⟩ := hrel
    obtain ⟨m, hm⟩ : ∃ m, m = t + FP.sum (rs.take j) := ⟨_, rfl⟩
    have hmle : m ≤ 12000 := by have := FP.sum_take_le rs j; have := HSUM.out; omega
    rw [← hm] at hn
    subst hn
    have HM := Lib.hid hm
    clear hm
    by_cases hlt : j < k
    · have hjl : j < rs.length := by rw [← HK.out]; exact hlt
      obtain ⟨bb, off, rfl, hbl, hcell⟩ := seen_at hs1 hjl
      have hnext : m + 4 + (str rs[j]).size = t + FP.sum (rs.take (j + 1)) := by rw [str_size, FP.sum_snoc hjl, HM.out]; omega
      obtain ⟨sj, hsj⟩ : ∃ sj, sj = str rs[j] := ⟨_, rfl⟩
      rw [← hsj] at hcell hnext
      have hsz : sj.size ≤ 6000 := by have := FP.sum_take_le rs (j + 1); have := HSUM.out; omega
      have HNX := Lib.hid hnext
      clear hsj hnext
      go_wp2
      go_round
      case rel => exact ⟨j + 1, by omega, by go_num, by rw [← HNX.out]; go_num⟩
      case measure => simp [intOf]; omega
    · have hmb : m = b.size := by
        rw [HM.out, List.take_of_length_le (by rw [← HK.out]; omega)]
        exact HSUM.out
      subst hmb
      by_cases hx : load.size ≤ 1024
      · have hall := fun W => all_any (str (FP.enc (bytesOf load)) ++ b) (by rw [ByteArray.size_append, str_size, FP.enc_length, bytesOf_length]; omega) W
        have hb' : bytesOf (str (FP.enc (bytesOf load)) ++ b) = FP.enc (bytesOf load) ++ bytesOf b := by
          conv => lhs; rw [← str_bytesOf b, ← str_append]
          exact bytesOf_str _
        have hll : (bytesOf load).length ≤ 1024 := by rw [bytesOf_length]; exact hx
        rw [hb', FP.rows_enc hll, FP.torn_enc hll, ← HRS.out, ← HT.out, List.length_cons, ← HK.out] at hall
        have hxs : (str (FP.enc (bytesOf load))).size ≤ 2000 := by rw [str_size, FP.enc_length, bytesOf_length]; omega
        have HALL := Lib.hid hall
        clear hall hb' hll
        have hd : decide ((t : Int) < 0) = false := bool_dec _ (by omega)
        go_wp2_with fail
        refine (bytes_yes load _ hx).mono ?_
        rintro e w2 ⟨rfl, h2⟩
        have hs2 := (hs1.below h2).up h2.size
        have g2 : Below w.heap.size w w2 := h1.trans (h2.mono h1.size)
        clear hs1 h1 h2
        go_wp2_with fail
        refine (HALL.out _).mono ?_
        rintro e w3 ⟨A3, c3, rfl, hs3, hc3, h3⟩
        have hs2' := (hs2.below h3).up h3.size
        have g3 : Below w.heap.size w w3 := g2.trans (h3.mono g2.size)
        obtain ⟨bb, off, rfl, hbl, hcell⟩ := seen_at hs3 (i := 0) (by simp)
        have hcell' : w3.cell? ⟨bb, off, none⟩ = some (.string load) := by
          have := hcell
          rw [List.getElem_cons_zero, str_bytesOf] at this
          exact this
        obtain ⟨D, hcut, hsD⟩ := cut_from (n := k + 1) (k := 1) (by rw [List.length_cons, ← HK.out]) hs3 c3 (by omega) hc3
        have hcut' : ∀ W, (Instr.slice 28 (.slice (some ⟨bb, off, none⟩) (k + 1) c3) (some (.int .i64 1)) none none).run Try.prog W = .ok (.slice D k (c3 - 1)) W := hcut
        rw [List.drop_succ_cons, List.drop_zero] at hsD
        clear hcell hcut hs3 hs2 g2 h3
        go_wp2_with fail
        refine (same_any D A1 (c3 - 1) c1 k k rs rs _ HK.out HK.out hsD hs2' (by omega) (by omega)).mono ?_
        rintro e w4 ⟨rfl, q, rfl⟩
        rw [show decide (rs = rs) = true from decide_eq_true rfl]
        go_wp2_with fail
        refine (wakes_any _).mono ?_
        rintro e w5 ⟨rfl, h5⟩
        go_wp2
        go_ret
        exact ⟨rfl, (below_drewN g3 q).trans (h5.mono g3.size)⟩
      · go_wp2_with fail
        refine (bytes_no load _ (by omega) (by omega)).mono ?_
        rintro e w2 ⟨rfl, rfl⟩
        have hd : decide ((t : Int) < 0) = false := bool_dec _ (by omega)
        have hd2 : decide ((load.size : Int) ≤ 1024) = false := by simp; omega
        go_wp2_with fail
        refine (wakes_any _).mono ?_
        rintro e w3 ⟨rfl, h3⟩
        go_wp2
        go_ret
        exact ⟨rfl, h1.trans (h3.mono h1.size)⟩

theorem more_walk (a0 a1 : ByteArray) (w : World) (w0 : a0.size ≤ 140737488351232) (w1 : a1.size ≤ 140737488351232) :
    Calls Try.prog 5 #[.string a0, .string a1] w fun e w' => e = .returned (.bool true) ∧ Below w.heap.size w w' := by
  by_cases h : 6000 < a0.size + a1.size
  · exact more_long a0 a1 w h w0 w1
  · exact more_in a0 a1 w (by omega)
end Go.Proofs.Ytcfdfpihmmaalaa
