/-
  Contract of entry's May: what it returns and what it does to memory. Conditions: those that the theorem names.
-/
import Derived.Test.YtchpemgamgcbkaaGreatEntRest
import Derived.Test.YtchpemgamgcbkaaGreatEntSame
namespace Go.Proofs.YtchpemgamgcbkaaGreat
open Go.RowKit

set_option maxRecDepth 100000 in
set_option maxHeartbeats 1000000 in
theorem emay_any (x : En) (A D : Option Addr) (n c m d B : Nat) (q : Bool) (w : World) (hx : EIn w B x A n c D m d) (hB : B ≤ w.heap.size) (hq : q = true ↔ x.Good) :
    Calls Tryz.prog 10 #[.agg (evals x A n c D m d)] w fun e w' => e = .returned (.bool q) ∧ Below w.heap.size w w' := by
  have HQ := Lib.hid (hq.trans good_right)
  clear hq
  obtain ⟨u, hu⟩ := iff_of x.Right
  have HU := Lib.hid hu
  clear hu
  obtain ⟨W0, hW0⟩ : ∃ W0, W0 = w.alloc (.cells (evals x A n c D m d) 32) := ⟨_, rfl⟩
  have v0 : Var W0 w.heap.size 32 (evals x A n c D m d) := by rw [hW0]; exact Var.new _ _ _
  have b0 : Below w.heap.size w W0 := by rw [hW0]; exact below_new _
  have hx0 := hx.below (b0.mono hB)
  have hB0 := Nat.le_trans hB b0.size
  have HX := Lib.hid hx0
  obtain ⟨kind, ⟨pid, ep, sq, tx, rs⟩, yes, nx, off, ⟨ro, rp, rq, rk, rv⟩, ⟨pp, pe, pn, sn⟩⟩ := x
  simp only [evals] at hW0 v0 ⊢
  have HW0 := Lib.hid hW0
  clear hW0 hx hx0
  go_enter Tryz.func10, Tryz.ntmps10
  go_upto_region 1 with fail
  rw [← HW0.out]
  go_wp2_with (refine wpList_load_var rfl _ rfl Tryz.underlying32 rfl rfl v0 (by kernel_rfl) ?_)
  refine (right_any ⟨kind, ⟨pid, ep, sq, tx, rs⟩, yes, nx, off, ⟨ro, rp, rq, rk, rv⟩, ⟨pp, pe, pn, sn⟩⟩ A D n c m d B u W0 HX.out hB0 HU.out).mono ?_
  rintro e w1 ⟨rfl, hb1⟩
  have v1 := v0.below hb1 v0.lt
  have b1 := b0.trans (hb1.mono b0.size)
  cases u with
  | false =>
    obtain rfl : q = false := bool_not HQ.out (fun h => by have := HU.out.2 h.1; cases this)
    clear HU HQ
    go_wp2
    go_ret
    exact ⟨rfl, b1⟩
  | true =>
    go_wp2_with (refine wpList_load_want (by rfl) _ rfl Tryz.underlying32 rfl rfl v1 (by kernel_rfl) ?_)
    refine (rest_any ⟨kind, ⟨pid, ep, sq, tx, rs⟩, yes, nx, off, ⟨ro, rp, rq, rk, rv⟩, ⟨pp, pe, pn, sn⟩⟩ A D n c m d B w1 (HX.out.below (hb1.mono hB0)) (Nat.le_trans hB b1.size)).mono ?_
    rintro e w2 ⟨A', n', c', D', m', d', rfl, hx2, hb2⟩
    have b2 := b1.trans (hb2.mono b1.size)
    go_wp2_with fail
    refine (esame_any (En.rest ⟨kind, ⟨pid, ep, sq, tx, rs⟩, yes, nx, off, ⟨ro, rp, rq, rk, rv⟩, ⟨pp, pe, pn, sn⟩⟩) noEn A' none D' none n' 0 c' 0 m' 0 d' 0 B q w2 hx2 (noEn_in _ _) (Nat.le_trans hB b2.size) ?_).mono ?_
    · rw [HQ.out]
      exact ⟨fun h => h.2, fun h => ⟨HU.out.1 (by first | rfl | trivial), h⟩⟩
    rintro e w3 ⟨rfl, hb3⟩
    have b3 := b2.trans (hb3.mono b2.size)
    clear HU HQ hx2
    go_wp2
    go_ret
    exact ⟨rfl, b3⟩
end Go.Proofs.YtchpemgamgcbkaaGreat
