/-
  Contracts of the reference's Texts (whether two rows of loads are the same) and of the laws' great (whether a load is above a bound). Conditions: those that each theorem names.
-/
import Derived.Test.YtpppeadmhfggkaaDoorFilG3
import Derived.Test.YtpppeadmhfggkaaDoorFilG5
import Derived.Deep.QuietTactic
import Derived.BigQuiet
namespace Go.Proofs.YtpppeadmhfggkaaDoor
open Go.RowKit

set_option maxRecDepth 100000 in
set_option maxHeartbeats 1000000 in
theorem texts_any (A A' : Option Addr) (c c' n n' : Nat) (xs ys : List (List UInt8)) (w : World) (hn : n = xs.length) (hn' : n' = ys.length) (hs : Seen w w.heap.size A (strs xs)) (hs' : Seen w w.heap.size A' (strs ys)) (hm : n ≤ 140737488351232) (hm' : n' ≤ 140737488351232) :
    Calls Tryd.prog 14 #[.slice A n c, .slice A' n' c'] w fun e w' => e = .returned (.bool (decide (xs = ys))) ∧ ∃ q, w' = w.drewN q := by
  obtain ⟨r, hr⟩ : ∃ r, r = decide (xs = ys) := ⟨_, rfl⟩
  rw [← hr]
  have HR := Lib.hid hr
  have HN := Lib.hid hn
  have HN' := Lib.hid hn'
  clear hr hn hn'
  by_cases hne : n = n'
  · subst hne
    go_enter Tryd.func14, Tryd.ntmps14
    go_wp2
    go_loopw [5] (fun i wr => ∃ k : Nat, k ≤ n ∧ i = .int .i64 (k : Int) ∧ xs.take k = ys.take k ∧ ∃ q, wr = w.drewN q) (fun i _ => n - (intOf i).toNat)
    case atStart => exact ⟨0, Nat.zero_le _, rfl, rfl, 0, rfl⟩
    case round =>
      obtain ⟨k, hk, rfl, ht, q, rfl⟩ := hrel
      have HT := Lib.hid ht
      clear ht
      by_cases hlt : k < n
      · obtain ⟨b, off, rfl, hb, hc⟩ := seen_at hs (show k < xs.length by rw [← HN.out]; exact hlt)
        obtain ⟨b', off', rfl, hb', hc'⟩ := seen_at hs' (show k < ys.length by rw [← HN'.out]; exact hlt)
        have hstep : str xs[k] = str ys[k] → xs.take (k + 1) = ys.take (k + 1) := fun he => by
          rw [List.take_succ_eq_append_getElem (show k < xs.length by rw [← HN.out]; exact hlt), List.take_succ_eq_append_getElem (show k < ys.length by rw [← HN'.out]; exact hlt), HT.out, str_inj he]
        have hstop : str xs[k] ≠ str ys[k] → r = false := fun he => by
          rw [HR.out]
          apply decide_eq_false
          intro e
          subst e
          exact he rfl
        obtain ⟨sx, hsx⟩ : ∃ sx, sx = str xs[k] := ⟨_, rfl⟩
        obtain ⟨sy, hsy⟩ : ∃ sy, sy = str ys[k] := ⟨_, rfl⟩
        rw [← hsx] at hc
        rw [← hsy] at hc'
        rw [← hsx, ← hsy] at hstep hstop
        have HS := Lib.hid hstep
        have HP := Lib.hid hstop
        clear hsx hsy hs hs' hstep hstop
        by_cases he : sx = sy
        · have HS' := Lib.hid (HS.out he)
          subst he
          go_wp2
          refine wp_region_quiet_lit (by kernel_rfl) (by kernel_rfl) ?_
          repeat (go_big_quiet_step (fail))
          refine wpQuiet_nil ?_
          intro _ hw'
          obtain ⟨nq, hw''⟩ := hw'
          subst hw''
          go_wp2
          go_roundw
          case rel => exact ⟨k + 1, by omega, by go_num, HS'.out, q + nq, rfl⟩
          case measure => simp [intOf]; omega
        · have hb2 : (sx.toList == sy.toList) = false := by rw [eqS]; exact decide_eq_false he
          have HE := Lib.hid he
          clear he
          go_wp2
          refine wp_region_quiet_lit (by kernel_rfl) (by kernel_rfl) ?_
          repeat (go_big_quiet_step (fail))
          refine wpQuiet_nil ?_
          intro _ hw'
          obtain ⟨nq, hw''⟩ := hw'
          subst hw''
          go_wp2
          go_ret
          exact ⟨by rw [HP.out HE.out]; rfl, q + nq, World.drewN_drewN _ _ _⟩
      · have hkn : k = n := by omega
        have hr1 : r = true := by
          rw [HR.out]
          apply decide_eq_true
          have h := HT.out
          rwa [hkn, List.take_of_length_le (by rw [← HN.out]; exact Nat.le_refl _), List.take_of_length_le (by rw [← HN'.out]; exact Nat.le_refl _)] at h
        have HR1 := Lib.hid hr1
        clear hkn hr1
        go_wp2
        go_ret
        exact ⟨by rw [HR1.out]; rfl, q, rfl⟩
  · have hr1 : r = false := by
      rw [HR.out]
      apply decide_eq_false
      intro e
      exact hne (by rw [HN.out, HN'.out, e])
    have HR1 := Lib.hid hr1
    have hd : ((n : Int) == (n' : Int)) = false := by rw [beq_nat]; exact decide_eq_false hne
    clear hr1 hne
    go_enter Tryd.func14, Tryd.ntmps14
    go_wp2
    go_ret
    exact ⟨by rw [HR1.out]; rfl, 0, rfl⟩

/-! ### great -/
def greatL (ls : List (List UInt8)) : Bool := ls.any fun x => decide (3000 < x.length)
theorem greatL_no {ls : List (List UInt8)} (h : greatL ls = false) : ∀ x ∈ ls, x.length ≤ 3000 := fun x hx => by
  have := List.any_eq_false.1 h x hx
  simpa using this
theorem greatL_step {ls : List (List UInt8)} {k : Nat} (h : k < ls.length) : greatL (ls.take (k + 1)) = (greatL (ls.take k) || decide (3000 < ls[k].length)) := by
  unfold greatL
  rw [List.take_succ_eq_append_getElem h, List.any_append]
  simp
set_option maxRecDepth 100000 in
set_option maxHeartbeats 400000 in
theorem greatL_any (A : Option Addr) (n c B : Nat) (ls : List (List UInt8)) (b : Bool) (w : World) (hn : n = ls.length) (hb : greatL ls = b) (hs : Seen w B A (strs ls)) (hmax : n ≤ 9223372036854775807) (hsz : ∀ x ∈ ls, x.length ≤ 9223372036854775807) :
    Calls Tryd.prog 8 #[.slice A n c] w fun e w' => e = .returned (.bool b) ∧ w = w' := by
  have HN := Lib.hid hn
  have HB := Lib.hid hb
  have HSZ := Lib.hid hsz
  clear hn hb hsz
  go_enter Tryd.func8, Tryd.ntmps8
  go_wp2
  go_loop [7] (fun i => ∃ k : Nat, k ≤ n ∧ i = .int .i64 (k : Int) ∧ greatL (ls.take k) = false) (fun i => n - (intOf i).toNat)
  case atStart => exact ⟨0, by omega, rfl, rfl⟩
  case round =>
    obtain ⟨k, hk, rfl, hall⟩ := hrel
    have HA := Lib.hid hall
    clear hall
    by_cases hlt : k < n
    · have hkl : k < ls.length := by rw [← HN.out]; exact hlt
      obtain ⟨bb, off, rfl, hbb, hc⟩ := seen_at hs hkl
      obtain ⟨x, hx⟩ : ∃ x, x = ls[k] := ⟨_, rfl⟩
      have hxl : x.length ≤ 9223372036854775807 := by rw [hx]; exact HSZ.out _ (List.getElem_mem _)
      have hst := greatL_step hkl
      rw [← hx] at hc hst
      have hxs := str_size x
      obtain ⟨z, hz⟩ : ∃ z, z = (str x).size := ⟨_, rfl⟩
      have HST := Lib.hid hst
      have HX := Lib.hid hx
      by_cases hg : 3000 < x.length
      · have hg' : 3000 < (str x).size := by omega
        have hb1 : true = b := by
          rw [← HB.out]
          symm
          unfold greatL
          rw [List.any_eq_true]
          exact ⟨x, by rw [HX.out]; exact List.getElem_mem _, decide_eq_true hg⟩
        subst hb1
        clear hx hst hxs hz hg
        go_wp2
        go_ret
        exact ⟨rfl, rfl⟩
      · have hg' : decide ((3000 : Int) < ((str x).size : Int)) = false := decide_eq_false (by omega)
        clear hx hst hz hxs
        have HG := Lib.hid hg
        clear hg
        go_wp2
        go_round
        case rel => exact ⟨k + 1, by omega, by go_num, by rw [HST.out, HA.out, decide_eq_false HG.out]; rfl⟩
        case measure => simp [intOf]; omega
    · obtain rfl : k = n := by omega
      have hb1 : false = b := by
        rw [← HB.out, ← HA.out, List.take_of_length_le (by rw [HN.out]; exact Nat.le_refl _)]
      subst hb1
      go_wp2
      go_ret
      exact ⟨rfl, rfl⟩
end Go.Proofs.YtpppeadmhfggkaaDoor
