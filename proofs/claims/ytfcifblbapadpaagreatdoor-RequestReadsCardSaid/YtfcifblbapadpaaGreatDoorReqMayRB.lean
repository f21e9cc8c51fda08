/-
  Contracts of the document's own May of requests, some kinds. Conditions: those that each theorem names.
-/
import Derived.Test.YtfcifblbapadpaaGreatDoorReqInR
namespace Go.Proofs.YtfcifblbapadpaaGreatDoor
open Go.RowKit

set_option maxRecDepth 100000 in
set_option maxHeartbeats 8000000 in
theorem ref_qmay_3 (tid timeout pid ep part group off most : Int) (yes : Bool) (bp be bs : Int) (bt : Bool) (rs : List Rc) (A : Option Addr) (n c B : Nat) (q : Bool) (w : World) (hx : QIn w B (⟨3, tid, timeout, pid, ep, part, group, off, most, yes, ⟨bp, be, bs, bt, rs⟩⟩ : Rq) A n c) (hB : B ≤ w.heap.size) (hq : q = true ↔ Rq.Good (⟨3, tid, timeout, pid, ep, part, group, off, most, yes, ⟨bp, be, bs, bt, rs⟩⟩ : Rq)) :
    Calls Tryz.prog 18 #[.agg (qvals (⟨3, tid, timeout, pid, ep, part, group, off, most, yes, ⟨bp, be, bs, bt, rs⟩⟩ : Rq) A n c)] w fun e w' => e = .returned (.bool q) ∧ Below w.heap.size w w' := by
  obtain ⟨W0, hW0⟩ : ∃ W0, W0 = w.alloc (.cells #[.int .i8 3, .int .i64 tid, .int .i64 timeout, .int .i64 pid, .int .i64 ep, .int .i64 part, .int .i64 group, .int .i64 off, .int .i64 most, .bool yes, .int .i64 bp, .int .i64 be, .int .i64 bs, .bool bt, .slice A n c] 29) := ⟨_, rfl⟩
  have v0 : Var W0 w.heap.size 29 #[.int .i8 3, .int .i64 tid, .int .i64 timeout, .int .i64 pid, .int .i64 ep, .int .i64 part, .int .i64 group, .int .i64 off, .int .i64 most, .bool yes, .int .i64 bp, .int .i64 be, .int .i64 bs, .bool bt, .slice A n c] := by rw [hW0]; exact Var.new _ _ _
  have b0 : Below w.heap.size w W0 := by rw [hW0]; exact below_new _
  have HX := Lib.hid (hx.below (b0.mono hB))
  have hB0 := Nat.le_trans hB b0.size
  have HQ := Lib.hid hq
  have HW0 := Lib.hid hW0
  obtain ⟨cp, hcp⟩ := iff_of' (Between 0 2 part)
  obtain ⟨cg, hcg⟩ := iff_of' (Between 0 1 group)
  obtain ⟨co, hco⟩ := iff_of' (Between 0 1048576 off)
  obtain ⟨cw, hcw⟩ := iff_of' (Between 1 8 pid ∧ Between 0 100 ep)
  obtain ⟨ok, hok⟩ := iff_of' (∀ f ∈ fdsOf 3, Rq.Ok true (⟨3, tid, timeout, pid, ep, part, group, off, most, yes, ⟨bp, be, bs, bt, rs⟩⟩ : Rq) f)
  have HP := Lib.hid hcp
  have HG := Lib.hid hcg
  have HO := Lib.hid hco
  have HW := Lib.hid hcw
  have HOK := Lib.hid hok
  simp only [qvals]
  obtain ⟨W1, hW1⟩ : ∃ W1, W1 = W0.alloc (.cells #[.int .i8 3, .int .i64 0, .int .i64 0, .int .i64 0, .int .i64 0, .int .i64 0, .int .i64 0, .int .i64 0, .int .i64 0, .bool false, .int .i64 0, .int .i64 0, .int .i64 0, .bool false, .slice none 0 0] 29) := ⟨_, rfl⟩
  obtain ⟨g, hg⟩ : ∃ g, g = W0.heap.size := ⟨_, rfl⟩
  have hbn : Below W0.heap.size W0 W1 := by rw [hW1]; exact below_new _
  have u1 : Var W1 g 29 #[.int .i8 3, .int .i64 0, .int .i64 0, .int .i64 0, .int .i64 0, .int .i64 0, .int .i64 0, .int .i64 0, .int .i64 0, .bool false, .int .i64 0, .int .i64 0, .int .i64 0, .bool false, .slice none 0 0] := by rw [hW1, hg]; exact Var.new _ _ _
  have v1 := v0.below hbn v0.lt
  have b1 := b0.trans (hbn.mono b0.size)
  have x1 := HX.out.below (hbn.mono hB0)
  have hB1 := Nat.le_trans hB0 hbn.size
  have hwg : w.heap.size < g := by rw [hg]; exact v0.lt
  have c0_0 := v0.cell 0 rfl
  have z0 := v0.lt
  clear hW0 hx hq hcp hcg hco hcw hok
  go_enter Tryz.func18, Tryz.ntmps18
  go_upto_region 1 with fail
  rw [← HW0.out]
  go_upto_region 2 with fail
  rw [← hW1, ← hg]
  clear hW1 hg hbn v0 c0_0 z0 HX
  obtain ⟨d0, d1, d2, d3, d4, d5, d6, d7, d8, d9, d10, d11, d12, d13, d14⟩ := v1.cells15
  have z1 := v1.lt
  have zg := u1.lt
  go_wp2_with fail
  refine (in_any part 0 2 cp W1 HP.out).mono ?_
  rintro e w9 ⟨rfl, rfl⟩
  go_wp2_with fail
  refine (in_any group 0 1 cg W1 HG.out).mono ?_
  rintro e w9 ⟨rfl, rfl⟩
  go_wp2_with fail
  refine (in_any off 0 1048576 co W1 HO.out).mono ?_
  rintro e w9 ⟨rfl, rfl⟩
  go_upto_region 6 with fail
  obtain ⟨W2, hW2⟩ : ∃ W2, W2 = W1 := ⟨_, rfl⟩
  go_cut [8] (fun s8 wx => s8 = .bool cw ∧ W2 = wx)
  case first =>
    obtain ⟨c1, hc1⟩ := iff_of' (Between 1 8 pid)
    have HC1 := Lib.hid hc1
    clear hc1
    go_wp2_with fail
    refine (in_any pid 1 8 c1 W1 HC1.out).mono ?_
    rintro e w9 ⟨rfl, rfl⟩
    cases c1 with
    | false =>
      obtain rfl : cw = false := bool_off HW.out (fun h => by have := HC1.out.2 h.1; cases this)
      have HW2 := Lib.hid hW2
      clear hW2
      go_wp2
      go_meet
      exact ⟨rfl, HW2.out⟩
    | true =>
      obtain ⟨c2, hc2⟩ := iff_of' (Between 0 100 ep)
      have HC2 := Lib.hid hc2
      clear hc2
      go_wp2_with fail
      refine (in_any ep 0 100 c2 W1 HC2.out).mono ?_
      rintro e w9 ⟨rfl, rfl⟩
      have HW2 := Lib.hid hW2
      clear hW2
      cases c2 with
      | true =>
        obtain rfl : cw = true := HW.out.2 ⟨HC1.out.1 (by first | rfl | trivial), HC2.out.1 (by first | rfl | trivial)⟩
        go_wp2
        go_meet
        exact ⟨rfl, HW2.out⟩
      | false =>
        obtain rfl : cw = false := bool_off HW.out (fun h => by have := HC2.out.2 h.2; cases this)
        go_wp2
        go_meet
        exact ⟨rfl, HW2.out⟩
  case rest =>
    obtain ⟨rfl, hw2⟩ := hcut
    rw [hW2] at hw2
    subst hw2
    clear hW2
    go_upto_block 0 with fail
    go_cut [4] (fun s4 wx => Between 0 9 3 ∧ s4 = .bool ok ∧ ∃ A' n' c', Own2 w wx w.heap.size g (⟨3, tid, timeout, pid, ep, part, group, off, most, yes, ⟨bp, be, bs, bt, rs⟩⟩ : Rq) (Rq.bare (⟨3, tid, timeout, pid, ep, part, group, off, most, yes, ⟨bp, be, bs, bt, rs⟩⟩ : Rq)) A n c A' n' c' ∧ QIn wx wx.heap.size (Rq.bare (⟨3, tid, timeout, pid, ep, part, group, off, most, yes, ⟨bp, be, bs, bt, rs⟩⟩ : Rq)) A' n' c' ∧ QIn wx wx.heap.size (⟨3, tid, timeout, pid, ep, part, group, off, most, yes, ⟨bp, be, bs, bt, rs⟩⟩ : Rq) A n c)
    case first =>
      have e3 := u1.cell 3 rfl
      have f3 := u1.free 3
      have e4 := u1.cell 4 rfl
      have f4 := u1.free 4
      have e6 := u1.cell 6 rfl
      have f6 := u1.free 6
      have e5 := u1.cell 5 rfl
      have f5 := u1.free 5
      have e7 := u1.cell 7 rfl
      have f7 := u1.free 7
      have hs := ((((((Only.refl g W1).trans (Only.setCell g 3 (.int .i64 pid) _)).trans (Only.setCell g 4 (.int .i64 ep) _)).trans (Only.setCell g 6 (.int .i64 group) _)).trans (Only.setCell g 5 (.int .i64 part) _)).trans (Only.setCell g 7 (.int .i64 off) _))
      have HU := Lib.hid (((((u1.set 3 (.int .i64 pid)).set 4 (.int .i64 ep)).set 6 (.int .i64 group)).set 5 (.int .i64 part)).set 7 (.int .i64 off))
      have HV := Lib.hid (hs.var v1 (by omega))
      have HBB := Lib.hid (Only.below b1 hs (by omega))
      have HXX := Lib.hid ((x1.below (Only.below (Below.refl B W1) hs (by omega))).up (show B ≤ (((((W1.setCell ⟨g, 3, none⟩ (.int .i64 pid)).setCell ⟨g, 4, none⟩ (.int .i64 ep)).setCell ⟨g, 6, none⟩ (.int .i64 group)).setCell ⟨g, 5, none⟩ (.int .i64 part)).setCell ⟨g, 7, none⟩ (.int .i64 off)).heap.size by rw [hs.size]; exact hB1))
      have HBI := Lib.hid (bare_qin (((((W1.setCell ⟨g, 3, none⟩ (.int .i64 pid)).setCell ⟨g, 4, none⟩ (.int .i64 ep)).setCell ⟨g, 6, none⟩ (.int .i64 group)).setCell ⟨g, 5, none⟩ (.int .i64 part)).setCell ⟨g, 7, none⟩ (.int .i64 off)) (((((W1.setCell ⟨g, 3, none⟩ (.int .i64 pid)).setCell ⟨g, 4, none⟩ (.int .i64 ep)).setCell ⟨g, 6, none⟩ (.int .i64 group)).setCell ⟨g, 5, none⟩ (.int .i64 part)).setCell ⟨g, 7, none⟩ (.int .i64 off)).heap.size (x := Rq.bare (⟨3, tid, timeout, pid, ep, part, group, off, most, yes, ⟨bp, be, bs, bt, rs⟩⟩ : Rq)) (by simp [Rq.bare, fdsOf, Rq.of, Rq.copy, noBt]))
      clear v1 u1 b1 x1 hs
      cases cw with
      | true =>
        cases cg with
        | true =>
          cases cp with
          | true =>
            cases co with
            | true =>
              obtain rfl : ok = true := HOK.out.2 (by
                rw [show fdsOf (3 : Int) = [.pid, .ep, .group, .part, .off] by simp [fdsOf]]
                intro f hf
                simp only [List.mem_cons, List.not_mem_nil, or_false] at hf
                rcases hf with rfl | rfl | rfl | rfl | rfl
                · exact (HW.out.1 (by first | rfl | trivial)).1
                · exact (HW.out.1 (by first | rfl | trivial)).2
                · exact HG.out.1 (by first | rfl | trivial)
                · exact HP.out.1 (by first | rfl | trivial)
                · exact HO.out.1 (by first | rfl | trivial))
              clear HP HG HO HW HQ HOK
              go_wp2
              go_meet
              exact ⟨⟨by omega, by omega⟩, rfl, none, 0, 0, ⟨HV.out, HU.out, HBB.out⟩, HBI.out, HXX.out⟩
            | false =>
              obtain rfl : ok = false := bool_off HOK.out (fun h => by have := HO.out.2 (h .off (by simp [fdsOf])); cases this)
              clear HP HG HO HW HQ HOK
              go_wp2
              go_meet
              exact ⟨⟨by omega, by omega⟩, rfl, none, 0, 0, ⟨HV.out, HU.out, HBB.out⟩, HBI.out, HXX.out⟩
          | false =>
            obtain rfl : ok = false := bool_off HOK.out (fun h => by have := HP.out.2 (h .part (by simp [fdsOf])); cases this)
            clear HP HG HO HW HQ HOK
            go_wp2
            go_meet
            exact ⟨⟨by omega, by omega⟩, rfl, none, 0, 0, ⟨HV.out, HU.out, HBB.out⟩, HBI.out, HXX.out⟩
        | false =>
          obtain rfl : ok = false := bool_off HOK.out (fun h => by have := HG.out.2 (h .group (by simp [fdsOf])); cases this)
          clear HP HG HO HW HQ HOK
          go_wp2
          go_meet
          exact ⟨⟨by omega, by omega⟩, rfl, none, 0, 0, ⟨HV.out, HU.out, HBB.out⟩, HBI.out, HXX.out⟩
      | false =>
        obtain rfl : ok = false := bool_off HOK.out (fun h => by have := HW.out.2 ⟨h .pid (by simp [fdsOf]), h .ep (by simp [fdsOf])⟩; cases this)
        clear HP HG HO HW HQ HOK
        go_wp2
        go_meet
        exact ⟨⟨by omega, by omega⟩, rfl, none, 0, 0, ⟨HV.out, HU.out, HBB.out⟩, HBI.out, HXX.out⟩
    case rest =>
      obtain ⟨hk09, rfl, A', n', c', ho, hi1, hi2⟩ := hcut
      clear v1 u1 b1 x1 d0 d1 d2 d3 d4 d5 d6 d7 d8 d9 d10 d11 d12 d13 d14 z1 zg HP HG HO HW
      cases ok with
      | false =>
        obtain rfl : q = false := bool_off HQ.out (fun h => by have := HOK.out.2 h.2.1; cases this)
        have hb := ho.below
        clear HQ HOK ho hi1 hi2
        go_wp2
        go_ret
        exact ⟨rfl, hb⟩
      | true =>
        have hall := HOK.out.1 (by first | rfl | trivial)
        have hvv := ho.v
        have huu := ho.u
        obtain ⟨m, hm⟩ := iff_of' (Rq.bare (⟨3, tid, timeout, pid, ep, part, group, off, most, yes, ⟨bp, be, bs, bt, rs⟩⟩ : Rq) = (⟨3, tid, timeout, pid, ep, part, group, off, most, yes, ⟨bp, be, bs, bt, rs⟩⟩ : Rq))
        have hqm : q = m := by
          cases m with
          | true => exact HQ.out.2 ⟨hk09, hall, (hm.1 rfl).symm⟩
          | false => exact bool_off HQ.out (fun h => by have := hm.2 h.2.2.symm; cases this)
        have HM := Lib.hid hm
        have HALL := Lib.hid hall
        subst hqm
        clear hm hall HQ HOK HALL
        go_wp2_with (first | refine wpList_load_want (by rfl) _ rfl Tryz.underlying29 rfl rfl huu (by simp only [qvals]; kernel_rfl) ?_ | refine wpList_load_want (by rfl) _ rfl Tryz.underlying29 rfl rfl hvv (by simp only [qvals]; kernel_rfl) ?_)
        refine (ref_qsame_any (Rq.bare (⟨3, tid, timeout, pid, ep, part, group, off, most, yes, ⟨bp, be, bs, bt, rs⟩⟩ : Rq)) (⟨3, tid, timeout, pid, ep, part, group, off, most, yes, ⟨bp, be, bs, bt, rs⟩⟩ : Rq) A' A n' n c' c wc.heap.size q wc hi1 hi2 (Nat.le_refl _) HM.out).mono ?_
        rintro e w9 ⟨rfl, hb9⟩
        have hb := ho.below.trans (hb9.mono ho.below.size)
        clear ho hi1 hi2 hvv huu HM hb9
        go_wp2
        go_ret
        exact ⟨rfl, hb⟩

set_option maxRecDepth 100000 in
set_option maxHeartbeats 8000000 in
theorem ref_qmay_4 (tid timeout pid ep part group off most : Int) (yes : Bool) (bp be bs : Int) (bt : Bool) (rs : List Rc) (A : Option Addr) (n c B : Nat) (q : Bool) (w : World) (hx : QIn w B (⟨4, tid, timeout, pid, ep, part, group, off, most, yes, ⟨bp, be, bs, bt, rs⟩⟩ : Rq) A n c) (hB : B ≤ w.heap.size) (hq : q = true ↔ Rq.Good (⟨4, tid, timeout, pid, ep, part, group, off, most, yes, ⟨bp, be, bs, bt, rs⟩⟩ : Rq)) :
    Calls Tryz.prog 18 #[.agg (qvals (⟨4, tid, timeout, pid, ep, part, group, off, most, yes, ⟨bp, be, bs, bt, rs⟩⟩ : Rq) A n c)] w fun e w' => e = .returned (.bool q) ∧ Below w.heap.size w w' := by
  obtain ⟨W0, hW0⟩ : ∃ W0, W0 = w.alloc (.cells #[.int .i8 4, .int .i64 tid, .int .i64 timeout, .int .i64 pid, .int .i64 ep, .int .i64 part, .int .i64 group, .int .i64 off, .int .i64 most, .bool yes, .int .i64 bp, .int .i64 be, .int .i64 bs, .bool bt, .slice A n c] 29) := ⟨_, rfl⟩
  have v0 : Var W0 w.heap.size 29 #[.int .i8 4, .int .i64 tid, .int .i64 timeout, .int .i64 pid, .int .i64 ep, .int .i64 part, .int .i64 group, .int .i64 off, .int .i64 most, .bool yes, .int .i64 bp, .int .i64 be, .int .i64 bs, .bool bt, .slice A n c] := by rw [hW0]; exact Var.new _ _ _
  have b0 : Below w.heap.size w W0 := by rw [hW0]; exact below_new _
  have HX := Lib.hid (hx.below (b0.mono hB))
  have hB0 := Nat.le_trans hB b0.size
  have HQ := Lib.hid hq
  have HW0 := Lib.hid hW0
  obtain ⟨cp, hcp⟩ := iff_of' (Between 0 2 part)
  obtain ⟨cg, hcg⟩ := iff_of' (Between 0 1 group)
  obtain ⟨co, hco⟩ := iff_of' (Between 0 1048576 off)
  obtain ⟨cw, hcw⟩ := iff_of' (Between 1 8 pid ∧ Between 0 100 ep)
  obtain ⟨ok, hok⟩ := iff_of' (∀ f ∈ fdsOf 4, Rq.Ok true (⟨4, tid, timeout, pid, ep, part, group, off, most, yes, ⟨bp, be, bs, bt, rs⟩⟩ : Rq) f)
  have HP := Lib.hid hcp
  have HG := Lib.hid hcg
  have HO := Lib.hid hco
  have HW := Lib.hid hcw
  have HOK := Lib.hid hok
  simp only [qvals]
  obtain ⟨W1, hW1⟩ : ∃ W1, W1 = W0.alloc (.cells #[.int .i8 4, .int .i64 0, .int .i64 0, .int .i64 0, .int .i64 0, .int .i64 0, .int .i64 0, .int .i64 0, .int .i64 0, .bool false, .int .i64 0, .int .i64 0, .int .i64 0, .bool false, .slice none 0 0] 29) := ⟨_, rfl⟩
  obtain ⟨g, hg⟩ : ∃ g, g = W0.heap.size := ⟨_, rfl⟩
  have hbn : Below W0.heap.size W0 W1 := by rw [hW1]; exact below_new _
  have u1 : Var W1 g 29 #[.int .i8 4, .int .i64 0, .int .i64 0, .int .i64 0, .int .i64 0, .int .i64 0, .int .i64 0, .int .i64 0, .int .i64 0, .bool false, .int .i64 0, .int .i64 0, .int .i64 0, .bool false, .slice none 0 0] := by rw [hW1, hg]; exact Var.new _ _ _
  have v1 := v0.below hbn v0.lt
  have b1 := b0.trans (hbn.mono b0.size)
  have x1 := HX.out.below (hbn.mono hB0)
  have hB1 := Nat.le_trans hB0 hbn.size
  have hwg : w.heap.size < g := by rw [hg]; exact v0.lt
  have c0_0 := v0.cell 0 rfl
  have z0 := v0.lt
  clear hW0 hx hq hcp hcg hco hcw hok
  go_enter Tryz.func18, Tryz.ntmps18
  go_upto_region 1 with fail
  rw [← HW0.out]
  go_upto_region 2 with fail
  rw [← hW1, ← hg]
  clear hW1 hg hbn v0 c0_0 z0 HX
  obtain ⟨d0, d1, d2, d3, d4, d5, d6, d7, d8, d9, d10, d11, d12, d13, d14⟩ := v1.cells15
  have z1 := v1.lt
  have zg := u1.lt
  go_wp2_with fail
  refine (in_any part 0 2 cp W1 HP.out).mono ?_
  rintro e w9 ⟨rfl, rfl⟩
  go_wp2_with fail
  refine (in_any group 0 1 cg W1 HG.out).mono ?_
  rintro e w9 ⟨rfl, rfl⟩
  go_wp2_with fail
  refine (in_any off 0 1048576 co W1 HO.out).mono ?_
  rintro e w9 ⟨rfl, rfl⟩
  go_upto_region 6 with fail
  obtain ⟨W2, hW2⟩ : ∃ W2, W2 = W1 := ⟨_, rfl⟩
  go_cut [8] (fun s8 wx => s8 = .bool cw ∧ W2 = wx)
  case first =>
    obtain ⟨c1, hc1⟩ := iff_of' (Between 1 8 pid)
    have HC1 := Lib.hid hc1
    clear hc1
    go_wp2_with fail
    refine (in_any pid 1 8 c1 W1 HC1.out).mono ?_
    rintro e w9 ⟨rfl, rfl⟩
    cases c1 with
    | false =>
      obtain rfl : cw = false := bool_off HW.out (fun h => by have := HC1.out.2 h.1; cases this)
      have HW2 := Lib.hid hW2
      clear hW2
      go_wp2
      go_meet
      exact ⟨rfl, HW2.out⟩
    | true =>
      obtain ⟨c2, hc2⟩ := iff_of' (Between 0 100 ep)
      have HC2 := Lib.hid hc2
      clear hc2
      go_wp2_with fail
      refine (in_any ep 0 100 c2 W1 HC2.out).mono ?_
      rintro e w9 ⟨rfl, rfl⟩
      have HW2 := Lib.hid hW2
      clear hW2
      cases c2 with
      | true =>
        obtain rfl : cw = true := HW.out.2 ⟨HC1.out.1 (by first | rfl | trivial), HC2.out.1 (by first | rfl | trivial)⟩
        go_wp2
        go_meet
        exact ⟨rfl, HW2.out⟩
      | false =>
        obtain rfl : cw = false := bool_off HW.out (fun h => by have := HC2.out.2 h.2; cases this)
        go_wp2
        go_meet
        exact ⟨rfl, HW2.out⟩
  case rest =>
    obtain ⟨rfl, hw2⟩ := hcut
    rw [hW2] at hw2
    subst hw2
    clear hW2
    go_upto_block 0 with fail
    go_cut [4] (fun s4 wx => Between 0 9 4 ∧ s4 = .bool ok ∧ ∃ A' n' c', Own2 w wx w.heap.size g (⟨4, tid, timeout, pid, ep, part, group, off, most, yes, ⟨bp, be, bs, bt, rs⟩⟩ : Rq) (Rq.bare (⟨4, tid, timeout, pid, ep, part, group, off, most, yes, ⟨bp, be, bs, bt, rs⟩⟩ : Rq)) A n c A' n' c' ∧ QIn wx wx.heap.size (Rq.bare (⟨4, tid, timeout, pid, ep, part, group, off, most, yes, ⟨bp, be, bs, bt, rs⟩⟩ : Rq)) A' n' c' ∧ QIn wx wx.heap.size (⟨4, tid, timeout, pid, ep, part, group, off, most, yes, ⟨bp, be, bs, bt, rs⟩⟩ : Rq) A n c)
    case first =>
      have e3 := u1.cell 3 rfl
      have f3 := u1.free 3
      have e4 := u1.cell 4 rfl
      have f4 := u1.free 4
      have e9 := u1.cell 9 rfl
      have f9 := u1.free 9
      have hs := ((((Only.refl g W1).trans (Only.setCell g 3 (.int .i64 pid) _)).trans (Only.setCell g 4 (.int .i64 ep) _)).trans (Only.setCell g 9 (.bool yes) _))
      have HU := Lib.hid (((u1.set 3 (.int .i64 pid)).set 4 (.int .i64 ep)).set 9 (.bool yes))
      have HV := Lib.hid (hs.var v1 (by omega))
      have HBB := Lib.hid (Only.below b1 hs (by omega))
      have HXX := Lib.hid ((x1.below (Only.below (Below.refl B W1) hs (by omega))).up (show B ≤ (((W1.setCell ⟨g, 3, none⟩ (.int .i64 pid)).setCell ⟨g, 4, none⟩ (.int .i64 ep)).setCell ⟨g, 9, none⟩ (.bool yes)).heap.size by rw [hs.size]; exact hB1))
      have HBI := Lib.hid (bare_qin (((W1.setCell ⟨g, 3, none⟩ (.int .i64 pid)).setCell ⟨g, 4, none⟩ (.int .i64 ep)).setCell ⟨g, 9, none⟩ (.bool yes)) (((W1.setCell ⟨g, 3, none⟩ (.int .i64 pid)).setCell ⟨g, 4, none⟩ (.int .i64 ep)).setCell ⟨g, 9, none⟩ (.bool yes)).heap.size (x := Rq.bare (⟨4, tid, timeout, pid, ep, part, group, off, most, yes, ⟨bp, be, bs, bt, rs⟩⟩ : Rq)) (by simp [Rq.bare, fdsOf, Rq.of, Rq.copy, noBt]))
      clear v1 u1 b1 x1 hs
      cases cw with
      | true =>
        obtain rfl : ok = true := HOK.out.2 (by
          rw [show fdsOf (4 : Int) = [.pid, .ep, .yes] by simp [fdsOf]]
          intro f hf
          simp only [List.mem_cons, List.not_mem_nil, or_false] at hf
          rcases hf with rfl | rfl | rfl
          · exact (HW.out.1 (by first | rfl | trivial)).1
          · exact (HW.out.1 (by first | rfl | trivial)).2
          · exact trivial)
        clear HP HG HO HW HQ HOK
        go_wp2
        go_meet
        exact ⟨⟨by omega, by omega⟩, rfl, none, 0, 0, ⟨HV.out, HU.out, HBB.out⟩, HBI.out, HXX.out⟩
      | false =>
        obtain rfl : ok = false := bool_off HOK.out (fun h => by have := HW.out.2 ⟨h .pid (by simp [fdsOf]), h .ep (by simp [fdsOf])⟩; cases this)
        clear HP HG HO HW HQ HOK
        go_wp2
        go_meet
        exact ⟨⟨by omega, by omega⟩, rfl, none, 0, 0, ⟨HV.out, HU.out, HBB.out⟩, HBI.out, HXX.out⟩
    case rest =>
      obtain ⟨hk09, rfl, A', n', c', ho, hi1, hi2⟩ := hcut
      clear v1 u1 b1 x1 d0 d1 d2 d3 d4 d5 d6 d7 d8 d9 d10 d11 d12 d13 d14 z1 zg HP HG HO HW
      cases ok with
      | false =>
        obtain rfl : q = false := bool_off HQ.out (fun h => by have := HOK.out.2 h.2.1; cases this)
        have hb := ho.below
        clear HQ HOK ho hi1 hi2
        go_wp2
        go_ret
        exact ⟨rfl, hb⟩
      | true =>
        have hall := HOK.out.1 (by first | rfl | trivial)
        have hvv := ho.v
        have huu := ho.u
        obtain ⟨m, hm⟩ := iff_of' (Rq.bare (⟨4, tid, timeout, pid, ep, part, group, off, most, yes, ⟨bp, be, bs, bt, rs⟩⟩ : Rq) = (⟨4, tid, timeout, pid, ep, part, group, off, most, yes, ⟨bp, be, bs, bt, rs⟩⟩ : Rq))
        have hqm : q = m := by
          cases m with
          | true => exact HQ.out.2 ⟨hk09, hall, (hm.1 rfl).symm⟩
          | false => exact bool_off HQ.out (fun h => by have := hm.2 h.2.2.symm; cases this)
        have HM := Lib.hid hm
        have HALL := Lib.hid hall
        subst hqm
        clear hm hall HQ HOK HALL
        go_wp2_with (first | refine wpList_load_want (by rfl) _ rfl Tryz.underlying29 rfl rfl huu (by simp only [qvals]; kernel_rfl) ?_ | refine wpList_load_want (by rfl) _ rfl Tryz.underlying29 rfl rfl hvv (by simp only [qvals]; kernel_rfl) ?_)
        refine (ref_qsame_any (Rq.bare (⟨4, tid, timeout, pid, ep, part, group, off, most, yes, ⟨bp, be, bs, bt, rs⟩⟩ : Rq)) (⟨4, tid, timeout, pid, ep, part, group, off, most, yes, ⟨bp, be, bs, bt, rs⟩⟩ : Rq) A' A n' n c' c wc.heap.size q wc hi1 hi2 (Nat.le_refl _) HM.out).mono ?_
        rintro e w9 ⟨rfl, hb9⟩
        have hb := ho.below.trans (hb9.mono ho.below.size)
        clear ho hi1 hi2 hvv huu HM hb9
        go_wp2
        go_ret
        exact ⟨rfl, hb⟩

end Go.Proofs.YtfcifblbapadpaaGreatDoor
