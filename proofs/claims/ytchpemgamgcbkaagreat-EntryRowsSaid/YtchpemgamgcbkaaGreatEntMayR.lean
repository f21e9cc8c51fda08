/-
  Contract of the document's May: what it returns and what it does to memory. Conditions: those that the theorem names.
-/
import Derived.Test.YtchpemgamgcbkaaGreatEntBareR
import Derived.Test.YtchpemgamgcbkaaGreatEntSameR
import Derived.Test.YtchpemgamgcbkaaGreatEntKnownR
import Derived.Test.YtchpemgamgcbkaaGreatRecMayR
import Derived.Test.YtchpemgamgcbkaaGreatEntBytes
namespace Go.Proofs.YtchpemgamgcbkaaGreat
open Go.RowKit

set_option maxRecDepth 100000 in
set_option maxHeartbeats 4000000 in
theorem ref_emay_any (x : En) (A D : Option Addr) (n c m d B : Nat) (q : Bool) (w : World) (hx : EIn w B x A n c D m d) (hB : B ≤ w.heap.size) (hq : q = true ↔ x.Good) :
    Calls Tryz.prog 11 #[.agg (evals x A n c D m d)] w fun e w' => e = .returned (.bool q) ∧ Below w.heap.size w w' := by
  have HQ := Lib.hid (hq.trans good_bare)
  clear hq
  obtain ⟨u, hu⟩ := iff_of (x = x.bare)
  have HU := Lib.hid hu
  clear hu
  obtain ⟨W0, hW0⟩ : ∃ W0, W0 = w.alloc (.cells (evals x A n c D m d) 32) := ⟨_, rfl⟩
  have v0 : Var W0 w.heap.size 32 (evals x A n c D m d) := by rw [hW0]; exact Var.new _ _ _
  have b0 : Below w.heap.size w W0 := by rw [hW0]; exact below_new _
  have HX := Lib.hid (hx.below (b0.mono hB))
  have hB0 := Nat.le_trans hB b0.size
  have HBE := Lib.hid (rfl : x.bare = x.bare)
  obtain ⟨kind, ⟨pid, ep, sq, tx, rs⟩, yes, nx, off, ⟨ro, rp, rq, rk, rv⟩, ⟨pp, pe, pn, sn⟩⟩ := x
  simp only [evals] at hW0 v0 ⊢
  have HW0 := Lib.hid hW0
  clear hW0 hx HBE
  go_enter Tryz.func11, Tryz.ntmps11
  go_upto_region 1 with fail
  rw [← HW0.out]
  have h0 : Var W0.drew w.heap.size 32 #[.int .i8 kind, .int .i64 pid, .int .i64 ep, .int .i64 sq, .bool tx, .slice A n c, .bool yes, .int .i64 nx, .int .i64 off, .int .i64 ro, .int .i64 rp, .int .i64 rq, .string rk, .string rv, .int .i64 pp, .int .i64 pe, .int .i64 pn, .slice D m d] := v0
  have b0d : Below w.heap.size w W0.drew := b0.drew
  have HXd : Hid (EIn W0.drew B ⟨kind, ⟨pid, ep, sq, tx, rs⟩, yes, nx, off, ⟨ro, rp, rq, rk, rv⟩, ⟨pp, pe, pn, sn⟩⟩ A n c D m d) := HX.out.below (Below.refl _ _).drew
  refine wp_region_held_drew (S := fun w' => Var w' w.heap.size 32 #[.int .i8 kind, .int .i64 pid, .int .i64 ep, .int .i64 sq, .bool tx, .slice A n c, .bool yes, .int .i64 nx, .int .i64 off, .int .i64 ro, .int .i64 rp, .int .i64 rq, .string rk, .string rv, .int .i64 pp, .int .i64 pe, .int .i64 pn, .slice D m d]) (by kernel_rfl) h0 (fun hHeld => ?_)
  generalize W0.drew = W1 at h0 b0d HXd hHeld ⊢
  clear v0 b0 HX HW0 hHeld
  refine fld_takes [0, 1] _ 3 _ _ _ (by kernel_rfl) (fun _ d _ _ _ h => by cases d <;> exact h) (by rfl) (by kernel_rfl) (by assumption) ?_
  refine fld_taken (v := ?_) rfl (by rfl) (fun w' hw' => ?_) ?_
  rotate_left
  · refine exec_load_var (x := .tmp 1) ?_ ?_ hw' Tryz.underlying32 rfl (by kernel_rfl) <;> rfl
  simp only [Act.put, List.getElem_toArray, List.getElem_cons_zero, List.setIfInBounds_toArray, List.set_cons_zero, List.set_cons_succ]
  refine fld_taken (v := ?_) rfl (by rfl) (fun w' hw' => ?_) ?_
  rotate_left
  · refine exec_load_var (x := .tmp 1) ?_ ?_ hw' Tryz.underlying32 rfl (by kernel_rfl) <;> rfl
  simp only [Act.put, List.getElem_toArray, List.getElem_cons_succ, List.getElem_cons_zero, List.setIfInBounds_toArray, List.set_cons_zero, List.set_cons_succ]
  refine fld_taken_nil ?_
  have hB1 := Nat.le_trans hB b0d.size
  refine fld_alone (i := 2) (by kernel_rfl) rfl (by rfl) (fun K hK => ?_)
  go_simp
  refine (ref_bare_any ⟨kind, ⟨pid, ep, sq, tx, rs⟩, yes, nx, off, ⟨ro, rp, rq, rk, rv⟩, ⟨pp, pe, pn, sn⟩⟩ A D n c m d B W1 HXd.out hB1).mono ?_
  rintro e W2 ⟨A', n', c', D', m', d', rfl, hx2, hb2⟩
  have HX2 := Lib.hid hx2
  have h2 := h0.below hb2 h0.lt
  have b2 := b0d.trans (hb2.mono b0d.size)
  have HXd2 := Lib.hid (HXd.out.below (hb2.mono hB1))
  clear hx2 hb2 b0d HXd hB1
  go_wp2_with fail
  refine hK.out _ _ h2 ?_
  clear hK K h0
  have hB2 := Nat.le_trans hB b2.size
  refine fld_alone (i := 3) (by kernel_rfl) rfl (by rfl) (fun K hK => ?_)
  go_simp
  refine (ref_esame_any ⟨kind, ⟨pid, ep, sq, tx, rs⟩, yes, nx, off, ⟨ro, rp, rq, rk, rv⟩, ⟨pp, pe, pn, sn⟩⟩ (En.bare ⟨kind, ⟨pid, ep, sq, tx, rs⟩, yes, nx, off, ⟨ro, rp, rq, rk, rv⟩, ⟨pp, pe, pn, sn⟩⟩) A A' D D' n n' c c' m m' d d' B u W2 HXd2.out HX2.out hB2 HU.out).mono ?_
  rintro e W3 ⟨rfl, hb3⟩
  have h3 := h2.below hb3 h2.lt
  have b3 := b2.trans (hb3.mono b2.size)
  have HX3 := Lib.hid (HXd2.out.below (hb3.mono hB2))
  clear hb3 b2 HXd2 HX2 hB2
  go_wp2_with fail
  refine hK.out _ _ h3 ?_
  clear hK K h2
  refine fld_takes [4] _ 0 _ _ _ (by kernel_rfl) (fun _ d _ _ _ h => by cases d <;> exact h) (by rfl) (by kernel_rfl) (by assumption) ?_
  refine fld_taken (v := ?_) rfl (by rfl) (fun w' hw' => ?_) ?_
  rotate_left
  · (go_simp <;> with_reducible rfl)
  simp only [Act.put, List.getElem_toArray, List.getElem_cons_succ, List.getElem_cons_zero, List.setIfInBounds_toArray, List.set_cons_zero, List.set_cons_succ]
  refine fld_taken_nil ?_
  refine wpAnyH_done (by kernel_rfl) ?_ _
  have hB3 := Nat.le_trans hB b3.size
  cases u with
  | false =>
    obtain rfl : q = false := bool_not HQ.out (fun h => by have := HU.out.2 h.1; cases this)
    clear HQ HU HX3 h3
    go_wp2
    go_ret
    exact ⟨rfl, b3⟩
  | true =>
    have HQR : Hid (q = true ↔ En.Right ⟨kind, ⟨pid, ep, sq, tx, rs⟩, yes, nx, off, ⟨ro, rp, rq, rk, rv⟩, ⟨pp, pe, pn, sn⟩⟩) := by
      show _ ↔ _
      rw [HQ.out]
      exact ⟨fun h => h.2, fun h => ⟨HU.out.1 (by first | rfl | trivial), h⟩⟩
    clear HQ HU
    obtain ⟨hlen, hs3, hcap, hmax, hsz, hksz, hpd⟩ := HX3.out
    simp only at hlen hs3 hsz hksz hpd
    obtain ⟨hk1, hk2⟩ := hksz
    have HL := Lib.hid hlen
    have HS := Lib.hid hsz
    have HP := Lib.hid hpd
    clear hlen hsz hpd HX3
    obtain ⟨g0, g1, g2, g3, g4, g5, g6, g7, g8, g9, g10, g11, g12, g13, g14, g15, g16, g17, -⟩ := h3.cells18
    have z3 := h3.lt
    rcases kind_cases kind with rfl | rfl | rfl | rfl | rfl | rfl | rfl | ⟨y0, y1, y2, y3, y4, y5, y6⟩
    · have HR := Lib.hid (HQR.out.trans (right0 ..))
      clear HQR
      go_wp2_with fail
      refine (ref_may_any A n c B rs pid ep sq tx q W3 HL.out HR.out hs3 hB3 hmax HS.out).mono ?_
      rintro e w4 ⟨rfl, hb4⟩
      have bf := b3.trans (hb4.mono b3.size)
      go_wp2
      go_ret
      exact ⟨rfl, bf⟩
    · have HR := Lib.hid (HQR.out.trans (right1 ..))
      clear HQR
      go_wp2_with fail
      refine (ref_named_any pid ep q W3 HR.out).mono ?_
      rintro e w4 ⟨rfl, rfl⟩
      have bf := b3
      go_wp2
      go_ret
      exact ⟨rfl, bf⟩
    · have HR := Lib.hid (HQR.out.trans (right2 ..))
      clear HQR
      go_wp2_with fail
      refine (ref_within_any off 0 1048576 q W3 HR.out).mono ?_
      rintro e w4 ⟨rfl, rfl⟩
      have bf := b3
      go_wp2
      go_ret
      exact ⟨rfl, bf⟩
    · have HR := Lib.hid (HQR.out.trans (right3 ..))
      clear HQR
      obtain ⟨u, hu⟩ := iff_of (Bt.Good ⟨pid, ep, sq, tx, rs⟩)
      have HU := Lib.hid hu
      clear hu
      go_wp2_with fail
      refine (ref_may_any A n c B rs pid ep sq tx u W3 HL.out HU.out hs3 hB3 hmax HS.out).mono ?_
      rintro e w4 ⟨rfl, hb4⟩
      have bf := b3.trans (hb4.mono b3.size)
      have h4 := h3.below hb4 h3.lt
      clear g0 g1 g2 g3 g4 g5 g6 g7 g8 g9 g10 g11 g12 g13 g14 g15 g16 g17 z3
      have g4 := h4.cell 4 rfl
      have g7 := h4.cell 7 rfl
      have z4 := h4.lt
      cases u with
      | false =>
        obtain rfl : q = false := bool_not HR.out (fun h => by have := HU.out.2 h.2.2; cases this)
        clear HR HU
        go_wp2
        go_ret
        exact ⟨rfl, bf⟩
      | true =>
        have hb := HU.out.1 (by first | rfl | trivial)
        have HBG := Lib.hid hb
        clear hb HU
        cases tx with
        | false =>
          obtain rfl : q = false := bool_not HR.out (fun h => by cases h.1)
          clear HR HBG
          go_wp2
          go_ret
          exact ⟨rfl, bf⟩
        | true =>
          go_wp2_with fail
          refine (ref_within_any nx 0 1048576 q _ ?_).mono ?_
          · rw [HR.out]
            exact ⟨fun h => h.2.1, fun h => ⟨(by first | rfl | trivial), h, HBG.out⟩⟩
          rintro e w5 ⟨rfl, rfl⟩
          go_wp2
          go_ret
          exact ⟨rfl, bf⟩
    · have HR := Lib.hid (HQR.out.trans (right4 ..))
      clear HQR
      obtain ⟨u, hu⟩ := iff_of (Named pid ep)
      have HU := Lib.hid hu
      clear hu
      go_wp2_with fail
      refine (ref_named_any pid ep u W3 HU.out).mono ?_
      rintro e w4 ⟨rfl, rfl⟩
      have bf := b3
      cases u with
      | false =>
        obtain rfl : q = false := bool_not HR.out (fun h => by have := HU.out.2 h.2; cases this)
        clear HR HU
        go_wp2
        go_ret
        exact ⟨rfl, bf⟩
      | true =>
        go_wp2_with fail
        refine (ref_within_any nx 0 1048576 q _ ?_).mono ?_
        · rw [HR.out]
          exact ⟨fun h => h.1, fun h => ⟨h, HU.out.1 (by first | rfl | trivial)⟩⟩
        rintro e w5 ⟨rfl, rfl⟩
        go_wp2
        go_ret
        exact ⟨rfl, bf⟩
    · have HR := Lib.hid (HQR.out.trans (right5 ..))
      clear HQR
      go_wp2_with fail
      refine (ref_mayrow_any ro rp rq rk rv q W3 HR.out hk1 hk2).mono ?_
      rintro e w4 ⟨rfl, hb4⟩
      have bf := b3.trans (hb4.mono b3.size)
      go_wp2
      go_ret
      exact ⟨rfl, bf⟩
    · have HR := Lib.hid (HQR.out.trans (right6 ..))
      clear HQR
      go_wp2_with fail
      refine (ref_known_any ⟨pp, pe, pn, sn⟩ D m d B q W3 HP.out hB3 HR.out).mono ?_
      rintro e w4 ⟨rfl, hb4⟩
      have bf := b3.trans (hb4.mono b3.size)
      go_wp2
      go_ret
      exact ⟨rfl, bf⟩
    · obtain rfl : q = false := bool_not HQR.out (right_no ⟨y0, y1, y2, y3, y4, y5, y6⟩)
      have bf := b3
      clear HQR
      go_wp2
      go_ret
      exact ⟨rfl, bf⟩
end Go.Proofs.YtchpemgamgcbkaaGreat
