/-
  The contract of the document's Great: it returns, and turns nothing that was there. Conditions: those that the theorem names.
-/
import Derived.Test.YtchpemgamgcbkaaGreatEntG7
import Derived.Test.YtchpemgamgcbkaaGreatRecMay
namespace Go.Proofs.YtchpemgamgcbkaaGreat
open Go.RowKit

set_option maxRecDepth 100000 in
set_option maxHeartbeats 1000000 in
theorem egreat_any (x : En) (A D : Option Addr) (n c m d B : Nat) (w : World) (hx : EIn w B x A n c D m d) (hB : B ≤ w.heap.size) :
    Calls Tryz.prog 6 #[.agg (evals x A n c D m d)] w fun e w' => ∃ b : Bool, e = .returned (.bool b) ∧ Below w.heap.size w w' := by
  obtain ⟨kind, ⟨pid, ep, sq, tx, rs⟩, yes, nx, off, ⟨ro, rp, rq, rk, rv⟩, ⟨pp, pe, pn, sn⟩⟩ := x
  obtain ⟨hlen, hseen, -, hmax, hsz, hksz, hpd⟩ := hx
  simp only at hlen hseen hsz hksz
  obtain ⟨hk1, hk2⟩ := hksz
  have hm := hpd.max
  have HN := Lib.hid hlen
  have HSZ := Lib.hid hsz
  simp only [evals]
  obtain ⟨W0, hW0⟩ : ∃ W0, W0 = w.alloc (.cells #[.int .i8 kind, .int .i64 pid, .int .i64 ep, .int .i64 sq, .bool tx, .slice A n c, .bool yes, .int .i64 nx, .int .i64 off, .int .i64 ro, .int .i64 rp, .int .i64 rq, .string rk, .string rv, .int .i64 pp, .int .i64 pe, .int .i64 pn, .slice D m d] 32) := ⟨_, rfl⟩
  have v0 : Var W0 w.heap.size 32 #[.int .i8 kind, .int .i64 pid, .int .i64 ep, .int .i64 sq, .bool tx, .slice A n c, .bool yes, .int .i64 nx, .int .i64 off, .int .i64 ro, .int .i64 rp, .int .i64 rq, .string rk, .string rv, .int .i64 pp, .int .i64 pe, .int .i64 pn, .slice D m d] := by rw [hW0]; exact Var.new _ _ _
  have b0 : Below w.heap.size w W0 := by rw [hW0]; exact below_new _
  have HW0 := Lib.hid hW0
  have hs0 := hseen.below (b0.mono hB)
  have hB0 := Nat.le_trans hB b0.size
  have c5 := v0.cell 5 rfl
  have c12 := v0.cell 12 rfl
  have c13 := v0.cell 13 rfl
  have c17 := v0.cell 17 rfl
  have z0 := v0.lt
  clear hW0 hseen hlen hsz hpd
  go_enter Tryz.func6, Tryz.ntmps6
  go_upto_region 1 with fail
  rw [← HW0.out]
  by_cases h1 : 40 < n
  · have t1 : decide ((40 : Int) < (n : Int)) = true := by simp; omega
    go_wp2
    go_ret
    exact ⟨true, rfl, b0⟩
  have t1 : decide ((40 : Int) < (n : Int)) = false := bool_dec _ (by omega)
  by_cases h2 : 200 < rk.size
  · have t2 : decide ((200 : Int) < (rk.size : Int)) = true := by simp; omega
    go_wp2
    go_ret
    exact ⟨true, rfl, b0⟩
  have t2 : decide ((200 : Int) < (rk.size : Int)) = false := bool_dec _ (by omega)
  by_cases h3 : 200 < rv.size
  · have t3 : decide ((200 : Int) < (rv.size : Int)) = true := by simp; omega
    go_wp2
    go_ret
    exact ⟨true, rfl, b0⟩
  have t3 : decide ((200 : Int) < (rv.size : Int)) = false := bool_dec _ (by omega)
  by_cases h4 : 40 < m
  · have t4 : decide ((40 : Int) < (m : Int)) = true := by simp; omega
    go_wp2
    go_ret
    exact ⟨true, rfl, b0⟩
  have t4 : decide ((40 : Int) < (m : Int)) = false := bool_dec _ (by omega)
  go_wp2_with fail
  go_loopw [3] (fun i wr => ∃ k : Nat, k ≤ n ∧ i = .int .i64 k ∧ wr = W0) (fun i _ => n - (intOf i).toNat)
  case atStart => exact ⟨0, by omega, rfl, rfl⟩
  case round =>
    obtain ⟨k, hk, rfl, rfl⟩ := hrel
    by_cases hlt : k < n
    · obtain ⟨r, hr⟩ := rec_here HN.out hlt
      obtain ⟨b1, o1, rfl, hb1, p0, p1⟩ := rec_at hs0 hr
      obtain ⟨z1, z2⟩ := HSZ.out r (List.mem_of_getElem? hr)
      have hw1 : b1 < wr.heap.size := by omega
      obtain ⟨xk, xv⟩ := r
      simp only at p0 p1 z1 z2
      clear hr
      by_cases s1 : 200 < xk.size
      · have u1 : decide ((200 : Int) < (xk.size : Int)) = true := by simp; omega
        go_wp2
        go_ret
        exact ⟨true, rfl, b0⟩
      · have u1 : decide ((200 : Int) < (xk.size : Int)) = false := bool_dec _ (by omega)
        by_cases s2 : 200 < xv.size
        · have u2 : decide ((200 : Int) < (xv.size : Int)) = true := by simp; omega
          go_wp2
          go_ret
          exact ⟨true, rfl, b0⟩
        · have u2 : decide ((200 : Int) < (xv.size : Int)) = false := bool_dec _ (by omega)
          go_wp2
          go_roundw
          case rel => exact ⟨k + 1, by omega, by go_num, (by first | rfl | trivial)⟩
          case measure => simp [intOf]; omega
    · have hkn : k = n := by omega
      subst hkn
      go_wp2
      go_ret
      exact ⟨false, rfl, b0⟩
end Go.Proofs.YtchpemgamgcbkaaGreat
