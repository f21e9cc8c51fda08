/-
  Contracts of the document's own Read of requests, some kinds. Conditions: those that each theorem names.
-/
import Derived.Test.YtfcifblbapadpaaGreatDoorReqReadRH
namespace Go.Proofs.YtfcifblbapadpaaGreatDoor
open Go.RowKit

set_option maxRecDepth 100000 in
set_option maxHeartbeats 4000000 in
theorem ref_qread_0 (A : Option Addr) (l c B : Nat) (bs : List UInt8) (x : Rq) (er : Int) (p0 : Nat) (w : World) (hn : NumIs ⟨bs.toArray⟩ 0 false 0 9 0 p0 false) (hq : QIs ⟨bs.toArray⟩ x er) (hs : Seen w B A (cells bs)) (hB : B ≤ w.heap.size) (hl : l = bs.length) (hx : l ≤ 1000000) :
    Calls Tryz.prog 6 #[.slice A l c] w (GetRes x er w) := by
  obtain ⟨s, hS⟩ : ∃ s : ByteArray, s = ⟨bs.toArray⟩ := ⟨_, rfl⟩
  rw [← hS] at hq hn
  have hss : s.size ≤ 1000000 := by rw [hS, ← bytesOf_length, bytesOf_mk]; omega
  have hp0 := hn.le (Nat.zero_le _)
  have HQ := Lib.hid hq
  have HN := Lib.hid hn
  obtain ⟨W0, hW0⟩ : ∃ W0, W0 = w.alloc (.cells #[.int .i8 0, .int .i64 0, .int .i64 0, .int .i64 0, .int .i64 0, .int .i64 0, .int .i64 0, .int .i64 0, .int .i64 0, .bool false, .int .i64 0, .int .i64 0, .int .i64 0, .bool false, .slice none 0 0] 29) := ⟨_, rfl⟩
  have v0 : Var W0 w.heap.size 29 #[.int .i8 0, .int .i64 0, .int .i64 0, .int .i64 0, .int .i64 0, .int .i64 0, .int .i64 0, .int .i64 0, .int .i64 0, .bool false, .int .i64 0, .int .i64 0, .int .i64 0, .bool false, .slice none 0 0] := by rw [hW0]; exact Var.new _ _ _
  have b0 : Below w.heap.size w W0 := by rw [hW0]; exact below_new _
  have hst : (convert 22 9 (.slice A l c)).run Tryz.prog W0 = .ok (.string s) W0 := by
    rw [hS]
    exact str_now (hs.below (b0.mono hB)) _ _ _ l c hl Tryz.underlying22 Tryz.underlying5 Tryz.underlying9
  have HW0 := Lib.hid hW0
  clear hW0 hs hq hS hl hx hn
  go_enter Tryz.func6, Tryz.ntmps6
  go_upto_region 1 with fail
  rw [← HW0.out]
  go_wp2_with fail
  refine (ref_new s W0).mono ?_
  rintro e W1 ⟨rfl, rd1, b1⟩
  clear hst
  obtain ⟨g, hg⟩ : ∃ g, g = W0.heap.size := ⟨_, rfl⟩
  rw [← hg] at rd1 ⊢
  have v1 := v0.below b1 v0.lt
  have b01 := b0.trans (b1.mono b0.size)
  have hwg : w.heap.size < g := by have := v0.lt; omega
  clear hg v0 b1 HW0
  go_wp2_with fail
  refine (ref_number_all g s 0 W1 false 0 9 0 p0 false HN.out rd1 hss (Nat.zero_le _)).mono ?_
  rintro e W2 ⟨rfl, rd2, k2⟩
  have v2 := v1.kept k2 (by simp; omega)
  have b02 := b01.trans (k2.below b01.size (by intro y hy; simp at hy; omega))
  obtain ⟨q, hqq⟩ : ∃ q, q = W2.heap.size := ⟨_, rfl⟩
  obtain ⟨W3, hW3⟩ : ∃ W3, W3 = W2.alloc (.cells #[.int .i8 0, .int .i64 0, .int .i64 0, .int .i64 0, .int .i64 0, .int .i64 0, .int .i64 0, .int .i64 0, .int .i64 0, .bool false, .int .i64 0, .int .i64 0, .int .i64 0, .bool false, .slice none 0 0] 29) := ⟨_, rfl⟩
  have hgq : g < q := by rw [hqq]; exact Var.lt rd2
  have hbn : Below W2.heap.size W2 W3 := by rw [hW3]; exact below_new _
  have s3 : Rr w W3 g q s p0 false (Rq.of 0) none 0 0 := ⟨Var.below rd2 hbn (Var.lt rd2), by rw [hW3, hqq]; exact Var.new _ _ _, v2.below hbn v2.lt, bare_qown _ _ rfl, b02.trans (hbn.mono b02.size), hwg, hgq⟩
  have HW3 := Lib.hid hW3
  clear hW3 rd1 rd2 k2 v1 v2 b01 b02 hbn b0
  go_upto_region 3 with fail
  rw [← HW3.out, ← hqq]
  clear HW3 hqq
  obtain ⟨-, -, d2⟩ := s3.rd.cells
  have c0 : W3.cell? ⟨q, 0, none⟩ = some (.int .i8 0) := s3.v.cell 0 rfl
  obtain ⟨er2, hE⟩ := endIs_of s p0 false
  have HE := Lib.hid hE
  clear hE
  have hch : ChainIs s (fdsOf (0 : Int)) p0 false (Rq.of 0) (⟨0, 0, 0, 0, 0, 0, 0, 0, 0, false, noBt⟩ : Rq) p0 false := by
    rw [show fdsOf (0 : Int) = [] by simp [fdsOf]]
    exact ⟨rfl, rfl, rfl⟩
  have HCH := Lib.hid (hch.qis HN.out hp0)
  clear hch
  go_wp2_with fail
  clear d2 c0
  refine (ref_end g s p0 false er2 W3 HE.out s3.rd).mono ?_
  rintro e WE ⟨rfl, ne, rfl⟩
  have sE := s3.next (show Below W3.heap.size W3 (W3.drewN ne) from ⟨rfl, rfl, rfl, Nat.le_refl _, fun _ _ => rfl⟩)
  generalize W3.drewN ne = WE at sE ⊢
  clear s3
  have vE := sE.v
  have rE := sE.res
  rcases HE.out with ⟨hb0, hp9, rfl⟩ | ⟨hb0, rfl⟩
  · obtain ⟨mq, hmq⟩ := iff_of' (Rq.Good (⟨0, 0, 0, 0, 0, 0, 0, 0, 0, false, noBt⟩ : Rq))
    have HMQ := Lib.hid hmq
    clear hmq
    go_wp2_with (refine wpList_load_want (by rfl) _ rfl Tryz.underlying29 rfl rfl vE (by simp only [qvals]; kernel_rfl) ?_)
    refine (ref_qmay_any (⟨0, 0, 0, 0, 0, 0, 0, 0, 0, false, noBt⟩ : Rq) none 0 0 WE.heap.size mq WE sE.own.qin (Nat.le_refl _) HMQ.out).mono ?_
    rintro e WF ⟨rfl, hbF⟩
    have sF := sE.next hbF
    have vF := sF.v
    have rF := sF.res
    have oF := sF.own
    have bF := sF.below
    have hgF := sF.hg
    have hqF := sF.hq
    clear sE vE rE hbF sF
    cases mq with
    | true =>
      have hz : QIs s (⟨0, 0, 0, 0, 0, 0, 0, 0, 0, false, noBt⟩ : Rq) 0 := by
        rcases HCH.out with ⟨_, _, _, h⟩ | ⟨h, _⟩
        · exact h
        · exfalso
          rcases h with h | h | h
          · first | (cases h; done) | (rw [hb0] at h; cases h)
          · exact h hp9
          · exact h (HMQ.out.1 (by first | rfl | trivial))
      obtain ⟨rfl, rfl⟩ := HQ.out.one hz
      clear HQ HCH HE HN HMQ hz
      go_wp2_with (first | refine wpList_load_var rfl _ rfl Tryz.underlying29 rfl rfl vF (by simp only [qvals]; kernel_rfl) ?_ | (refine wpList_store_var rfl _ _ rfl rfl rfl rF rfl (by simp only [qvals]; kernel_rfl) (qvals_one _ _ _ _) ?_; intro W9 v9 o9))
      refine bodyPost_ret (results_var_tmp rfl rfl rfl v9 Tryz.underlying29 rfl (by simp only [qvals]; kernel_rfl)) rfl ?_
      exact ⟨Only.below bF o9 (Nat.le_refl _), none, 0, 0, rfl, (oF.only o9 (by omega)).down (by omega)⟩
    | false =>
      have hz : QIs s noRq 70 := by
        rcases HCH.out with ⟨_, _, h, _⟩ | ⟨_, h⟩
        · have := HMQ.out.2 h; cases this
        · exact h
      clear HMQ
      obtain ⟨rfl, rfl⟩ := HQ.out.one hz
      clear HQ HCH HE HN
      go_wp2_with (refine wpList_store_var rfl _ _ rfl rfl rfl rF rfl (by kernel_rfl) (by simp [Value.oneCell']) ?_; intro W9 v9 o9)
      refine bodyPost_ret (results_var_tmp rfl rfl rfl v9 Tryz.underlying29 rfl (by kernel_rfl)) rfl ?_
      exact ⟨Only.below bF o9 (Nat.le_refl _), none, 0, 0, rfl, bare_qown _ _ rfl⟩
  · have hz : QIs s noRq 70 := by
      rcases HCH.out with ⟨h1, h2, _, _⟩ | ⟨_, h⟩
      · exfalso
        rcases hb0 with h | h
        · first | (cases h; done) | (rw [h1] at h; cases h)
        · exact h h2
      · exact h
    have bE := sE.below
    clear sE vE
    obtain ⟨rfl, rfl⟩ := HQ.out.one hz
    clear HQ HCH HE HN
    go_wp2_with (refine wpList_store_var rfl _ _ rfl rfl rfl rE rfl (by kernel_rfl) (by simp [Value.oneCell']) ?_; intro W9 v9 o9)
    refine bodyPost_ret (results_var_tmp rfl rfl rfl v9 Tryz.underlying29 rfl (by kernel_rfl)) rfl ?_
    exact ⟨Only.below bE o9 (Nat.le_refl _), none, 0, 0, rfl, bare_qown _ _ rfl⟩

set_option maxRecDepth 100000 in
set_option maxHeartbeats 4000000 in
theorem ref_qread_1 (A : Option Addr) (l c B : Nat) (bs : List UInt8) (x : Rq) (er : Int) (p0 : Nat) (w : World) (hn : NumIs ⟨bs.toArray⟩ 0 false 0 9 1 p0 false) (hq : QIs ⟨bs.toArray⟩ x er) (hs : Seen w B A (cells bs)) (hB : B ≤ w.heap.size) (hl : l = bs.length) (hx : l ≤ 1000000) :
    Calls Tryz.prog 6 #[.slice A l c] w (GetRes x er w) := by
  obtain ⟨s, hS⟩ : ∃ s : ByteArray, s = ⟨bs.toArray⟩ := ⟨_, rfl⟩
  rw [← hS] at hq hn
  have hss : s.size ≤ 1000000 := by rw [hS, ← bytesOf_length, bytesOf_mk]; omega
  have hp0 := hn.le (Nat.zero_le _)
  have HQ := Lib.hid hq
  have HN := Lib.hid hn
  obtain ⟨W0, hW0⟩ : ∃ W0, W0 = w.alloc (.cells #[.int .i8 0, .int .i64 0, .int .i64 0, .int .i64 0, .int .i64 0, .int .i64 0, .int .i64 0, .int .i64 0, .int .i64 0, .bool false, .int .i64 0, .int .i64 0, .int .i64 0, .bool false, .slice none 0 0] 29) := ⟨_, rfl⟩
  have v0 : Var W0 w.heap.size 29 #[.int .i8 0, .int .i64 0, .int .i64 0, .int .i64 0, .int .i64 0, .int .i64 0, .int .i64 0, .int .i64 0, .int .i64 0, .bool false, .int .i64 0, .int .i64 0, .int .i64 0, .bool false, .slice none 0 0] := by rw [hW0]; exact Var.new _ _ _
  have b0 : Below w.heap.size w W0 := by rw [hW0]; exact below_new _
  have hst : (convert 22 9 (.slice A l c)).run Tryz.prog W0 = .ok (.string s) W0 := by
    rw [hS]
    exact str_now (hs.below (b0.mono hB)) _ _ _ l c hl Tryz.underlying22 Tryz.underlying5 Tryz.underlying9
  have HW0 := Lib.hid hW0
  clear hW0 hs hq hS hl hx hn
  go_enter Tryz.func6, Tryz.ntmps6
  go_upto_region 1 with fail
  rw [← HW0.out]
  go_wp2_with fail
  refine (ref_new s W0).mono ?_
  rintro e W1 ⟨rfl, rd1, b1⟩
  clear hst
  obtain ⟨g, hg⟩ : ∃ g, g = W0.heap.size := ⟨_, rfl⟩
  rw [← hg] at rd1 ⊢
  have v1 := v0.below b1 v0.lt
  have b01 := b0.trans (b1.mono b0.size)
  have hwg : w.heap.size < g := by have := v0.lt; omega
  clear hg v0 b1 HW0
  go_wp2_with fail
  refine (ref_number_all g s 0 W1 false 0 9 1 p0 false HN.out rd1 hss (Nat.zero_le _)).mono ?_
  rintro e W2 ⟨rfl, rd2, k2⟩
  have v2 := v1.kept k2 (by simp; omega)
  have b02 := b01.trans (k2.below b01.size (by intro y hy; simp at hy; omega))
  obtain ⟨q, hqq⟩ : ∃ q, q = W2.heap.size := ⟨_, rfl⟩
  obtain ⟨W3, hW3⟩ : ∃ W3, W3 = W2.alloc (.cells #[.int .i8 1, .int .i64 0, .int .i64 0, .int .i64 0, .int .i64 0, .int .i64 0, .int .i64 0, .int .i64 0, .int .i64 0, .bool false, .int .i64 0, .int .i64 0, .int .i64 0, .bool false, .slice none 0 0] 29) := ⟨_, rfl⟩
  have hgq : g < q := by rw [hqq]; exact Var.lt rd2
  have hbn : Below W2.heap.size W2 W3 := by rw [hW3]; exact below_new _
  have s3 : Rr w W3 g q s p0 false (Rq.of 1) none 0 0 := ⟨Var.below rd2 hbn (Var.lt rd2), by rw [hW3, hqq]; exact Var.new _ _ _, v2.below hbn v2.lt, bare_qown _ _ rfl, b02.trans (hbn.mono b02.size), hwg, hgq⟩
  have HW3 := Lib.hid hW3
  clear hW3 rd1 rd2 k2 v1 v2 b01 b02 hbn b0
  go_upto_region 3 with fail
  rw [← HW3.out, ← hqq]
  clear HW3 hqq
  obtain ⟨-, -, d2⟩ := s3.rd.cells
  have c0 : W3.cell? ⟨q, 0, none⟩ = some (.int .i8 1) := s3.v.cell 0 rfl
  obtain ⟨v_tid, p4, b4, h4⟩ := numIs_of s p0 false 0 1099511627776
  have H4 := Lib.hid h4
  have q4 := h4.le hp0
  clear h4
  go_wp2_with fail
  clear d2 c0
  refine (ref_number_all g s p0 W3 false 0 1099511627776 v_tid p4 b4 H4.out s3.rd hss hp0).mono ?_
  rintro e V4 ⟨rfl, rd4, k4⟩
  have t4 := s3.read rd4 k4
  have e4 : V4.cell? ⟨q, 1, none⟩ = some (.int .i64 0) := t4.v.cell 1 rfl
  have o4 : V4.cell? ⟨q, 0, none⟩ = some (.int .i8 1) := t4.v.cell 0 rfl
  have f4 := t4.v.free 1
  obtain ⟨W4, hW4⟩ : ∃ W, W = V4.setCell ⟨q, 1, none⟩ (.int .i64 v_tid) := ⟨_, rfl⟩
  have s4 : Rr w W4 g q s p4 b4 (⟨1, v_tid, 0, 0, 0, 0, 0, 0, 0, false, noBt⟩ : Rq) none 0 0 := by rw [hW4]; exact t4.put (x' := (⟨1, v_tid, 0, 0, 0, 0, 0, 0, 0, false, noBt⟩ : Rq)) rfl rfl
  have HX4 := Lib.hid hW4
  clear hW4 s3 rd4 k4 t4
  obtain ⟨v_timeout, p5, b5, h5⟩ := numIs_of s p4 b4 0 1099511627776
  have H5 := Lib.hid h5
  have q5 := h5.le q4
  clear h5
  go_wp2_with fail
  rw [← HX4.out]
  clear e4 o4 f4 HX4
  refine (ref_number_all g s p4 W4 b4 0 1099511627776 v_timeout p5 b5 H5.out s4.rd hss q4).mono ?_
  rintro e V5 ⟨rfl, rd5, k5⟩
  have t5 := s4.read rd5 k5
  have e5 : V5.cell? ⟨q, 2, none⟩ = some (.int .i64 0) := t5.v.cell 2 rfl
  have o5 : V5.cell? ⟨q, 0, none⟩ = some (.int .i8 1) := t5.v.cell 0 rfl
  have f5 := t5.v.free 2
  obtain ⟨W5, hW5⟩ : ∃ W, W = V5.setCell ⟨q, 2, none⟩ (.int .i64 v_timeout) := ⟨_, rfl⟩
  have s5 : Rr w W5 g q s p5 b5 (⟨1, v_tid, v_timeout, 0, 0, 0, 0, 0, 0, false, noBt⟩ : Rq) none 0 0 := by rw [hW5]; exact t5.put (x' := (⟨1, v_tid, v_timeout, 0, 0, 0, 0, 0, 0, false, noBt⟩ : Rq)) rfl rfl
  have HX5 := Lib.hid hW5
  clear hW5 s4 rd5 k5 t5
  obtain ⟨er2, hE⟩ := endIs_of s p5 b5
  have HE := Lib.hid hE
  clear hE
  have hch : ChainIs s (fdsOf (1 : Int)) p0 false (Rq.of 1) (⟨1, v_tid, v_timeout, 0, 0, 0, 0, 0, 0, false, noBt⟩ : Rq) p5 b5 := by
    rw [show fdsOf (1 : Int) = [.tid, .timeout] by simp [fdsOf]]
    exact ⟨_, _, _, ⟨_, H4.out, rfl⟩, ⟨_, _, _, ⟨_, H5.out, rfl⟩, ⟨rfl, rfl, rfl⟩⟩⟩
  have HCH := Lib.hid (hch.qis HN.out q5)
  clear hch
  go_wp2_with fail
  rw [← HX5.out]
  clear e5 o5 f5 HX5
  refine (ref_end g s p5 b5 er2 W5 HE.out s5.rd).mono ?_
  rintro e WE ⟨rfl, ne, rfl⟩
  have sE := s5.next (show Below W5.heap.size W5 (W5.drewN ne) from ⟨rfl, rfl, rfl, Nat.le_refl _, fun _ _ => rfl⟩)
  generalize W5.drewN ne = WE at sE ⊢
  clear s5
  have vE := sE.v
  have rE := sE.res
  rcases HE.out with ⟨hb0, hp9, rfl⟩ | ⟨hb0, rfl⟩
  · obtain ⟨mq, hmq⟩ := iff_of' (Rq.Good (⟨1, v_tid, v_timeout, 0, 0, 0, 0, 0, 0, false, noBt⟩ : Rq))
    have HMQ := Lib.hid hmq
    clear hmq
    go_wp2_with (refine wpList_load_want (by rfl) _ rfl Tryz.underlying29 rfl rfl vE (by simp only [qvals]; kernel_rfl) ?_)
    refine (ref_qmay_any (⟨1, v_tid, v_timeout, 0, 0, 0, 0, 0, 0, false, noBt⟩ : Rq) none 0 0 WE.heap.size mq WE sE.own.qin (Nat.le_refl _) HMQ.out).mono ?_
    rintro e WF ⟨rfl, hbF⟩
    have sF := sE.next hbF
    have vF := sF.v
    have rF := sF.res
    have oF := sF.own
    have bF := sF.below
    have hgF := sF.hg
    have hqF := sF.hq
    clear sE vE rE hbF sF
    cases mq with
    | true =>
      have hz : QIs s (⟨1, v_tid, v_timeout, 0, 0, 0, 0, 0, 0, false, noBt⟩ : Rq) 0 := by
        rcases HCH.out with ⟨_, _, _, h⟩ | ⟨h, _⟩
        · exact h
        · exfalso
          rcases h with h | h | h
          · first | (cases h; done) | (rw [hb0] at h; cases h)
          · exact h hp9
          · exact h (HMQ.out.1 (by first | rfl | trivial))
      obtain ⟨rfl, rfl⟩ := HQ.out.one hz
      clear HQ HCH HE HN HMQ hz
      go_wp2_with (first | refine wpList_load_var rfl _ rfl Tryz.underlying29 rfl rfl vF (by simp only [qvals]; kernel_rfl) ?_ | (refine wpList_store_var rfl _ _ rfl rfl rfl rF rfl (by simp only [qvals]; kernel_rfl) (qvals_one _ _ _ _) ?_; intro W9 v9 o9))
      refine bodyPost_ret (results_var_tmp rfl rfl rfl v9 Tryz.underlying29 rfl (by simp only [qvals]; kernel_rfl)) rfl ?_
      exact ⟨Only.below bF o9 (Nat.le_refl _), none, 0, 0, rfl, (oF.only o9 (by omega)).down (by omega)⟩
    | false =>
      have hz : QIs s noRq 70 := by
        rcases HCH.out with ⟨_, _, h, _⟩ | ⟨_, h⟩
        · have := HMQ.out.2 h; cases this
        · exact h
      clear HMQ
      obtain ⟨rfl, rfl⟩ := HQ.out.one hz
      clear HQ HCH HE HN
      go_wp2_with (refine wpList_store_var rfl _ _ rfl rfl rfl rF rfl (by kernel_rfl) (by simp [Value.oneCell']) ?_; intro W9 v9 o9)
      refine bodyPost_ret (results_var_tmp rfl rfl rfl v9 Tryz.underlying29 rfl (by kernel_rfl)) rfl ?_
      exact ⟨Only.below bF o9 (Nat.le_refl _), none, 0, 0, rfl, bare_qown _ _ rfl⟩
  · have hz : QIs s noRq 70 := by
      rcases HCH.out with ⟨h1, h2, _, _⟩ | ⟨_, h⟩
      · exfalso
        rcases hb0 with h | h
        · first | (cases h; done) | (rw [h1] at h; cases h)
        · exact h h2
      · exact h
    have bE := sE.below
    clear sE vE
    obtain ⟨rfl, rfl⟩ := HQ.out.one hz
    clear HQ HCH HE HN
    go_wp2_with (refine wpList_store_var rfl _ _ rfl rfl rfl rE rfl (by kernel_rfl) (by simp [Value.oneCell']) ?_; intro W9 v9 o9)
    refine bodyPost_ret (results_var_tmp rfl rfl rfl v9 Tryz.underlying29 rfl (by kernel_rfl)) rfl ?_
    exact ⟨Only.below bE o9 (Nat.le_refl _), none, 0, 0, rfl, bare_qown _ _ rfl⟩

set_option maxRecDepth 100000 in
set_option maxHeartbeats 4000000 in
theorem ref_qread_2 (A : Option Addr) (l c B : Nat) (bs : List UInt8) (x : Rq) (er : Int) (p0 : Nat) (w : World) (hn : NumIs ⟨bs.toArray⟩ 0 false 0 9 2 p0 false) (hq : QIs ⟨bs.toArray⟩ x er) (hs : Seen w B A (cells bs)) (hB : B ≤ w.heap.size) (hl : l = bs.length) (hx : l ≤ 1000000) :
    Calls Tryz.prog 6 #[.slice A l c] w (GetRes x er w) := by
  obtain ⟨s, hS⟩ : ∃ s : ByteArray, s = ⟨bs.toArray⟩ := ⟨_, rfl⟩
  rw [← hS] at hq hn
  have hss : s.size ≤ 1000000 := by rw [hS, ← bytesOf_length, bytesOf_mk]; omega
  have hp0 := hn.le (Nat.zero_le _)
  have HQ := Lib.hid hq
  have HN := Lib.hid hn
  obtain ⟨W0, hW0⟩ : ∃ W0, W0 = w.alloc (.cells #[.int .i8 0, .int .i64 0, .int .i64 0, .int .i64 0, .int .i64 0, .int .i64 0, .int .i64 0, .int .i64 0, .int .i64 0, .bool false, .int .i64 0, .int .i64 0, .int .i64 0, .bool false, .slice none 0 0] 29) := ⟨_, rfl⟩
  have v0 : Var W0 w.heap.size 29 #[.int .i8 0, .int .i64 0, .int .i64 0, .int .i64 0, .int .i64 0, .int .i64 0, .int .i64 0, .int .i64 0, .int .i64 0, .bool false, .int .i64 0, .int .i64 0, .int .i64 0, .bool false, .slice none 0 0] := by rw [hW0]; exact Var.new _ _ _
  have b0 : Below w.heap.size w W0 := by rw [hW0]; exact below_new _
  have hst : (convert 22 9 (.slice A l c)).run Tryz.prog W0 = .ok (.string s) W0 := by
    rw [hS]
    exact str_now (hs.below (b0.mono hB)) _ _ _ l c hl Tryz.underlying22 Tryz.underlying5 Tryz.underlying9
  have HW0 := Lib.hid hW0
  clear hW0 hs hq hS hl hx hn
  go_enter Tryz.func6, Tryz.ntmps6
  go_upto_region 1 with fail
  rw [← HW0.out]
  go_wp2_with fail
  refine (ref_new s W0).mono ?_
  rintro e W1 ⟨rfl, rd1, b1⟩
  clear hst
  obtain ⟨g, hg⟩ : ∃ g, g = W0.heap.size := ⟨_, rfl⟩
  rw [← hg] at rd1 ⊢
  have v1 := v0.below b1 v0.lt
  have b01 := b0.trans (b1.mono b0.size)
  have hwg : w.heap.size < g := by have := v0.lt; omega
  clear hg v0 b1 HW0
  go_wp2_with fail
  refine (ref_number_all g s 0 W1 false 0 9 2 p0 false HN.out rd1 hss (Nat.zero_le _)).mono ?_
  rintro e W2 ⟨rfl, rd2, k2⟩
  have v2 := v1.kept k2 (by simp; omega)
  have b02 := b01.trans (k2.below b01.size (by intro y hy; simp at hy; omega))
  obtain ⟨q, hqq⟩ : ∃ q, q = W2.heap.size := ⟨_, rfl⟩
  obtain ⟨W3, hW3⟩ : ∃ W3, W3 = W2.alloc (.cells #[.int .i8 2, .int .i64 0, .int .i64 0, .int .i64 0, .int .i64 0, .int .i64 0, .int .i64 0, .int .i64 0, .int .i64 0, .bool false, .int .i64 0, .int .i64 0, .int .i64 0, .bool false, .slice none 0 0] 29) := ⟨_, rfl⟩
  have hgq : g < q := by rw [hqq]; exact Var.lt rd2
  have hbn : Below W2.heap.size W2 W3 := by rw [hW3]; exact below_new _
  have s3 : Rr w W3 g q s p0 false (Rq.of 2) none 0 0 := ⟨Var.below rd2 hbn (Var.lt rd2), by rw [hW3, hqq]; exact Var.new _ _ _, v2.below hbn v2.lt, bare_qown _ _ rfl, b02.trans (hbn.mono b02.size), hwg, hgq⟩
  have HW3 := Lib.hid hW3
  clear hW3 rd1 rd2 k2 v1 v2 b01 b02 hbn b0
  go_upto_region 3 with fail
  rw [← HW3.out, ← hqq]
  clear HW3 hqq
  obtain ⟨-, -, d2⟩ := s3.rd.cells
  have c0 : W3.cell? ⟨q, 0, none⟩ = some (.int .i8 2) := s3.v.cell 0 rfl
  obtain ⟨v_part, p4, b4, h4⟩ := numIs_of s p0 false 0 1099511627776
  have H4 := Lib.hid h4
  have q4 := h4.le hp0
  clear h4
  go_wp2_with fail
  clear d2 c0
  refine (ref_number_all g s p0 W3 false 0 1099511627776 v_part p4 b4 H4.out s3.rd hss hp0).mono ?_
  rintro e V4 ⟨rfl, rd4, k4⟩
  have t4 := s3.read rd4 k4
  have e4 : V4.cell? ⟨q, 5, none⟩ = some (.int .i64 0) := t4.v.cell 5 rfl
  have o4 : V4.cell? ⟨q, 0, none⟩ = some (.int .i8 2) := t4.v.cell 0 rfl
  have f4 := t4.v.free 5
  obtain ⟨W4, hW4⟩ : ∃ W, W = V4.setCell ⟨q, 5, none⟩ (.int .i64 v_part) := ⟨_, rfl⟩
  have s4 : Rr w W4 g q s p4 b4 (⟨2, 0, 0, 0, 0, v_part, 0, 0, 0, false, noBt⟩ : Rq) none 0 0 := by rw [hW4]; exact t4.put (x' := (⟨2, 0, 0, 0, 0, v_part, 0, 0, 0, false, noBt⟩ : Rq)) rfl rfl
  have HX4 := Lib.hid hW4
  clear hW4 s3 rd4 k4 t4
  obtain ⟨t, p5, b1, ht⟩ := textIs_of s p4 b4 1024
  obtain ⟨bt9, er1, hrd⟩ := readIs_of t
  have hts := text_size ht (by omega)
  obtain ⟨hl4, hgood⟩ := read_small hrd
  have HTX := Lib.hid ht
  have HRD := Lib.hid hrd
  have q5 := ht.le q4
  have HG := Lib.hid hgood
  have HL4 := Lib.hid hl4
  clear ht hrd hgood hl4
  go_wp2_with fail
  rw [← HX4.out]
  clear e4 o4 f4 HX4
  refine (ref_text_all g s p4 W4 b4 1024 t p5 b1 HTX.out s4.rd hss q4).mono ?_
  rintro e V5 ⟨rfl, rd5, k5⟩
  have t5 := s4.read rd5 k5
  clear s4 rd5 k5
  go_wp2_with fail
  refine (ref_read_any t bt9 er1 V5 HRD.out (by omega)).mono ?_
  rintro e V9 ⟨A2, c2, rfl, ho2, hb2⟩
  have u9 := t5.next hb2
  have hgq2 := t5.hq
  have hqV : q < V5.heap.size := t5.v.lt
  clear t5
  rcases HRD.out with ⟨hbt, hgb, rfl⟩ | ⟨-, rfl, rfl⟩
  rotate_left
  · have hz : QIs s noRq 70 := by
      have hch : ChainIs s (fdsOf (2 : Int)) p0 false (Rq.of 2) {(⟨2, 0, 0, 0, 0, v_part, 0, 0, 0, false, noBt⟩ : Rq) with b := noBt} p5 true := by
        rw [show fdsOf (2 : Int) = [.part, .batch] by simp [fdsOf]]
        exact ⟨_, _, _, ⟨_, H4.out, rfl⟩, _, _, _, ⟨t, b1, noBt, 70, HTX.out, HRD.out, rfl, .inr ⟨rfl, rfl⟩⟩, rfl, rfl, rfl⟩
      rcases hch.qis HN.out q5 with ⟨h, _⟩ | ⟨_, h⟩
      · cases h
      · exact h
    obtain ⟨rfl, rfl⟩ := HQ.out.one hz
    have rr := u9.res
    have bb := u9.below
    clear HQ HN HRD HTX HG HL4 hz u9 ho2 hb2
    simp only [noBt]
    go_wp2_with (refine wpList_store_var rfl _ _ rfl rfl rfl (rr.alloc _) rfl (by kernel_rfl) (by simp [Value.oneCell']) ?_; intro W9 v9 o9)
    refine bodyPost_ret (results_var_tmp rfl rfl rfl v9 Tryz.underlying29 rfl (by kernel_rfl)) rfl ?_
    exact ⟨Only.below (bb.alloc bb.size _) o9 (Nat.le_refl _), none, 0, 0, rfl, bare_qown _ _ rfl⟩
  obtain rfl : b1 = false := by
    cases b1
    · rfl
    · have := text_bad HTX.out
      subst this
      have h8 := congrArg List.length hbt
      have h9 := Bt.enc_pos bt9
      rw [bytesOf_length] at h8
      rw [← h8] at h9
      simp [ByteArray.size] at h9
  obtain ⟨ap, ae, aq, atx, ars⟩ := bt9
  simp only at ho2 ⊢
  obtain ⟨m, hm⟩ : ∃ m, m = ars.length := ⟨_, rfl⟩
  rw [← hm] at ho2 ⊢
  have HMM := Lib.hid hm
  clear hm hbt hgb
  obtain ⟨W5, hW5⟩ : ∃ W5, W5 = V9.alloc (.cells #[.int .i64 ap, .int .i64 ae, .int .i64 aq, .bool atx, .slice A2 m c2] 27) := ⟨_, rfl⟩
  have v5 : Var W5 V9.heap.size 27 #[.int .i64 ap, .int .i64 ae, .int .i64 aq, .bool atx, .slice A2 m c2] := by rw [hW5]; exact Var.new _ _ _
  have b5 : Below V9.heap.size V9 W5 := by rw [hW5]; exact below_new _
  have u5 := u9.next b5
  have own5 : QOwn (q + 1) W5 ⟨2, 0, 0, 0, 0, v_part, 0, 0, 0, false, ⟨ap, ae, aq, atx, ars⟩⟩ A2 m c2 := QOwn.next ⟨own_down ho2 (by omega), HMM.out.symm, by have h4 : ars.length ≤ 4 := HL4.out; have := HMM.out; omega, HG.out⟩ b5
  have HW5 := Lib.hid hW5
  clear hW5 u9 ho2 hb2 b5
  go_upto_region 14 with fail
  rw [← HW5.out]
  obtain ⟨d0, d1, d2', d3, d4⟩ : W5.cell? ⟨V9.heap.size, 0, none⟩ = some (.int .i64 ap) ∧ W5.cell? ⟨V9.heap.size, 1, none⟩ = some (.int .i64 ae) ∧ W5.cell? ⟨V9.heap.size, 2, none⟩ = some (.int .i64 aq) ∧ W5.cell? ⟨V9.heap.size, 3, none⟩ = some (.bool atx) ∧ W5.cell? ⟨V9.heap.size, 4, none⟩ = some (.slice A2 m c2) := ⟨v5.cell 0 rfl, v5.cell 1 rfl, v5.cell 2 rfl, v5.cell 3 rfl, v5.cell 4 rfl⟩
  have hv5 : Var W5 q 29 #[.int .i8 2, .int .i64 0, .int .i64 0, .int .i64 0, .int .i64 0, .int .i64 v_part, .int .i64 0, .int .i64 0, .int .i64 0, .bool false, .int .i64 0, .int .i64 0, .int .i64 0, .bool false, .slice none 0 0] := u5.v
  clear v5 HW5
  go_wp2_with (refine wpList_store_part rfl _ _ rfl [.int .i8 2, .int .i64 0, .int .i64 0, .int .i64 0, .int .i64 0, .int .i64 v_part, .int .i64 0, .int .i64 0, .int .i64 0, .bool false] [.int .i64 0, .int .i64 0, .int .i64 0, .bool false, .slice none 0 0] rfl rfl hv5 rfl rfl rfl (by kernel_rfl) (by simp [Value.oneCell']) ?_; intro W6 v6 o6)
  have s6 : Rr w W6 g q s p5 false ⟨2, 0, 0, 0, 0, v_part, 0, 0, 0, false, ⟨ap, ae, aq, atx, ars⟩⟩ A2 m c2 := ⟨o6.var u5.rd (by omega), v6, o6.var u5.res (by omega), own5.only o6 (Nat.lt_succ_self q), Only.below u5.below o6 (by omega), u5.hg, u5.hq⟩
  clear d0 d1 d2' d3 d4 hv5 u5 v6 own5 o6
  obtain ⟨er2, hE⟩ := endIs_of s p5 false
  have HE := Lib.hid hE
  clear hE
  have hch : ChainIs s (fdsOf (2 : Int)) p0 false (Rq.of 2) (⟨2, 0, 0, 0, 0, v_part, 0, 0, 0, false, ⟨ap, ae, aq, atx, ars⟩⟩ : Rq) p5 false := by
    rw [show fdsOf (2 : Int) = [.part, .batch] by simp [fdsOf]]
    exact ⟨_, _, _, ⟨_, H4.out, rfl⟩, ⟨_, _, _, ⟨t, false, _, 0, HTX.out, HRD.out, rfl, .inl ⟨rfl, rfl⟩⟩, ⟨rfl, rfl, rfl⟩⟩⟩
  have HCH := Lib.hid (hch.qis HN.out q5)
  clear hch
  refine (ref_end g s p5 false er2 W6 HE.out s6.rd).mono ?_
  rintro e WE ⟨rfl, ne, rfl⟩
  have sE := s6.next (show Below W6.heap.size W6 (W6.drewN ne) from ⟨rfl, rfl, rfl, Nat.le_refl _, fun _ _ => rfl⟩)
  generalize W6.drewN ne = WE at sE ⊢
  clear s6
  have vE := sE.v
  have rE := sE.res
  rcases HE.out with ⟨hb0, hp9, rfl⟩ | ⟨hb0, rfl⟩
  · obtain ⟨mq, hmq⟩ := iff_of' (Rq.Good (⟨2, 0, 0, 0, 0, v_part, 0, 0, 0, false, ⟨ap, ae, aq, atx, ars⟩⟩ : Rq))
    have HMQ := Lib.hid hmq
    clear hmq
    go_wp2_with (refine wpList_load_want (by rfl) _ rfl Tryz.underlying29 rfl rfl vE (by simp only [qvals]; kernel_rfl) ?_)
    refine (ref_qmay_any (⟨2, 0, 0, 0, 0, v_part, 0, 0, 0, false, ⟨ap, ae, aq, atx, ars⟩⟩ : Rq) A2 m c2 WE.heap.size mq WE sE.own.qin (Nat.le_refl _) HMQ.out).mono ?_
    rintro e WF ⟨rfl, hbF⟩
    have sF := sE.next hbF
    have vF := sF.v
    have rF := sF.res
    have oF := sF.own
    have bF := sF.below
    have hgF := sF.hg
    have hqF := sF.hq
    clear sE vE rE hbF sF
    cases mq with
    | true =>
      have hz : QIs s (⟨2, 0, 0, 0, 0, v_part, 0, 0, 0, false, ⟨ap, ae, aq, atx, ars⟩⟩ : Rq) 0 := by
        rcases HCH.out with ⟨_, _, _, h⟩ | ⟨h, _⟩
        · exact h
        · exfalso
          rcases h with h | h | h
          · first | (cases h; done) | (rw [hb0] at h; cases h)
          · exact h hp9
          · exact h (HMQ.out.1 (by first | rfl | trivial))
      obtain ⟨rfl, rfl⟩ := HQ.out.one hz
      clear HQ HCH HE HN HMQ hz
      go_wp2_with (first | refine wpList_load_var rfl _ rfl Tryz.underlying29 rfl rfl vF (by simp only [qvals]; kernel_rfl) ?_ | (refine wpList_store_var rfl _ _ rfl rfl rfl rF rfl (by simp only [qvals]; kernel_rfl) (qvals_one _ _ _ _) ?_; intro W9 v9 o9))
      refine bodyPost_ret (results_var_tmp rfl rfl rfl v9 Tryz.underlying29 rfl (by simp only [qvals]; kernel_rfl)) rfl ?_
      exact ⟨Only.below bF o9 (Nat.le_refl _), A2, m, c2, rfl, (oF.only o9 (by omega)).down (by omega)⟩
    | false =>
      have hz : QIs s noRq 70 := by
        rcases HCH.out with ⟨_, _, h, _⟩ | ⟨_, h⟩
        · have := HMQ.out.2 h; cases this
        · exact h
      clear HMQ
      obtain ⟨rfl, rfl⟩ := HQ.out.one hz
      clear HQ HCH HE HN
      go_wp2_with (refine wpList_store_var rfl _ _ rfl rfl rfl rF rfl (by kernel_rfl) (by simp [Value.oneCell']) ?_; intro W9 v9 o9)
      refine bodyPost_ret (results_var_tmp rfl rfl rfl v9 Tryz.underlying29 rfl (by kernel_rfl)) rfl ?_
      exact ⟨Only.below bF o9 (Nat.le_refl _), none, 0, 0, rfl, bare_qown _ _ rfl⟩
  · have hz : QIs s noRq 70 := by
      rcases HCH.out with ⟨h1, h2, _, _⟩ | ⟨_, h⟩
      · exfalso
        rcases hb0 with h | h
        · first | (cases h; done) | (rw [h1] at h; cases h)
        · exact h h2
      · exact h
    have bE := sE.below
    clear sE vE
    obtain ⟨rfl, rfl⟩ := HQ.out.one hz
    clear HQ HCH HE HN
    go_wp2_with (refine wpList_store_var rfl _ _ rfl rfl rfl rE rfl (by kernel_rfl) (by simp [Value.oneCell']) ?_; intro W9 v9 o9)
    refine bodyPost_ret (results_var_tmp rfl rfl rfl v9 Tryz.underlying29 rfl (by kernel_rfl)) rfl ?_
    exact ⟨Only.below bE o9 (Nat.le_refl _), none, 0, 0, rfl, bare_qown _ _ rfl⟩

set_option maxRecDepth 100000 in
set_option maxHeartbeats 4000000 in
theorem ref_qread_5 (A : Option Addr) (l c B : Nat) (bs : List UInt8) (x : Rq) (er : Int) (p0 : Nat) (w : World) (hn : NumIs ⟨bs.toArray⟩ 0 false 0 9 5 p0 false) (hq : QIs ⟨bs.toArray⟩ x er) (hs : Seen w B A (cells bs)) (hB : B ≤ w.heap.size) (hl : l = bs.length) (hx : l ≤ 1000000) :
    Calls Tryz.prog 6 #[.slice A l c] w (GetRes x er w) := by
  obtain ⟨s, hS⟩ : ∃ s : ByteArray, s = ⟨bs.toArray⟩ := ⟨_, rfl⟩
  rw [← hS] at hq hn
  have hss : s.size ≤ 1000000 := by rw [hS, ← bytesOf_length, bytesOf_mk]; omega
  have hp0 := hn.le (Nat.zero_le _)
  have HQ := Lib.hid hq
  have HN := Lib.hid hn
  obtain ⟨W0, hW0⟩ : ∃ W0, W0 = w.alloc (.cells #[.int .i8 0, .int .i64 0, .int .i64 0, .int .i64 0, .int .i64 0, .int .i64 0, .int .i64 0, .int .i64 0, .int .i64 0, .bool false, .int .i64 0, .int .i64 0, .int .i64 0, .bool false, .slice none 0 0] 29) := ⟨_, rfl⟩
  have v0 : Var W0 w.heap.size 29 #[.int .i8 0, .int .i64 0, .int .i64 0, .int .i64 0, .int .i64 0, .int .i64 0, .int .i64 0, .int .i64 0, .int .i64 0, .bool false, .int .i64 0, .int .i64 0, .int .i64 0, .bool false, .slice none 0 0] := by rw [hW0]; exact Var.new _ _ _
  have b0 : Below w.heap.size w W0 := by rw [hW0]; exact below_new _
  have hst : (convert 22 9 (.slice A l c)).run Tryz.prog W0 = .ok (.string s) W0 := by
    rw [hS]
    exact str_now (hs.below (b0.mono hB)) _ _ _ l c hl Tryz.underlying22 Tryz.underlying5 Tryz.underlying9
  have HW0 := Lib.hid hW0
  clear hW0 hs hq hS hl hx hn
  go_enter Tryz.func6, Tryz.ntmps6
  go_upto_region 1 with fail
  rw [← HW0.out]
  go_wp2_with fail
  refine (ref_new s W0).mono ?_
  rintro e W1 ⟨rfl, rd1, b1⟩
  clear hst
  obtain ⟨g, hg⟩ : ∃ g, g = W0.heap.size := ⟨_, rfl⟩
  rw [← hg] at rd1 ⊢
  have v1 := v0.below b1 v0.lt
  have b01 := b0.trans (b1.mono b0.size)
  have hwg : w.heap.size < g := by have := v0.lt; omega
  clear hg v0 b1 HW0
  go_wp2_with fail
  refine (ref_number_all g s 0 W1 false 0 9 5 p0 false HN.out rd1 hss (Nat.zero_le _)).mono ?_
  rintro e W2 ⟨rfl, rd2, k2⟩
  have v2 := v1.kept k2 (by simp; omega)
  have b02 := b01.trans (k2.below b01.size (by intro y hy; simp at hy; omega))
  obtain ⟨q, hqq⟩ : ∃ q, q = W2.heap.size := ⟨_, rfl⟩
  obtain ⟨W3, hW3⟩ : ∃ W3, W3 = W2.alloc (.cells #[.int .i8 5, .int .i64 0, .int .i64 0, .int .i64 0, .int .i64 0, .int .i64 0, .int .i64 0, .int .i64 0, .int .i64 0, .bool false, .int .i64 0, .int .i64 0, .int .i64 0, .bool false, .slice none 0 0] 29) := ⟨_, rfl⟩
  have hgq : g < q := by rw [hqq]; exact Var.lt rd2
  have hbn : Below W2.heap.size W2 W3 := by rw [hW3]; exact below_new _
  have s3 : Rr w W3 g q s p0 false (Rq.of 5) none 0 0 := ⟨Var.below rd2 hbn (Var.lt rd2), by rw [hW3, hqq]; exact Var.new _ _ _, v2.below hbn v2.lt, bare_qown _ _ rfl, b02.trans (hbn.mono b02.size), hwg, hgq⟩
  have HW3 := Lib.hid hW3
  clear hW3 rd1 rd2 k2 v1 v2 b01 b02 hbn b0
  go_upto_region 3 with fail
  rw [← HW3.out, ← hqq]
  clear HW3 hqq
  obtain ⟨-, -, d2⟩ := s3.rd.cells
  have c0 : W3.cell? ⟨q, 0, none⟩ = some (.int .i8 5) := s3.v.cell 0 rfl
  obtain ⟨v_part, p4, b4, h4⟩ := numIs_of s p0 false 0 1099511627776
  have H4 := Lib.hid h4
  have q4 := h4.le hp0
  clear h4
  go_wp2_with fail
  clear d2 c0
  refine (ref_number_all g s p0 W3 false 0 1099511627776 v_part p4 b4 H4.out s3.rd hss hp0).mono ?_
  rintro e V4 ⟨rfl, rd4, k4⟩
  have t4 := s3.read rd4 k4
  have e4 : V4.cell? ⟨q, 5, none⟩ = some (.int .i64 0) := t4.v.cell 5 rfl
  have o4 : V4.cell? ⟨q, 0, none⟩ = some (.int .i8 5) := t4.v.cell 0 rfl
  have f4 := t4.v.free 5
  obtain ⟨W4, hW4⟩ : ∃ W, W = V4.setCell ⟨q, 5, none⟩ (.int .i64 v_part) := ⟨_, rfl⟩
  have s4 : Rr w W4 g q s p4 b4 (⟨5, 0, 0, 0, 0, v_part, 0, 0, 0, false, noBt⟩ : Rq) none 0 0 := by rw [hW4]; exact t4.put (x' := (⟨5, 0, 0, 0, 0, v_part, 0, 0, 0, false, noBt⟩ : Rq)) rfl rfl
  have HX4 := Lib.hid hW4
  clear hW4 s3 rd4 k4 t4
  obtain ⟨v_off, p5, b5, h5⟩ := numIs_of s p4 b4 0 1099511627776
  have H5 := Lib.hid h5
  have q5 := h5.le q4
  clear h5
  go_wp2_with fail
  rw [← HX4.out]
  clear e4 o4 f4 HX4
  refine (ref_number_all g s p4 W4 b4 0 1099511627776 v_off p5 b5 H5.out s4.rd hss q4).mono ?_
  rintro e V5 ⟨rfl, rd5, k5⟩
  have t5 := s4.read rd5 k5
  have e5 : V5.cell? ⟨q, 7, none⟩ = some (.int .i64 0) := t5.v.cell 7 rfl
  have o5 : V5.cell? ⟨q, 0, none⟩ = some (.int .i8 5) := t5.v.cell 0 rfl
  have f5 := t5.v.free 7
  obtain ⟨W5, hW5⟩ : ∃ W, W = V5.setCell ⟨q, 7, none⟩ (.int .i64 v_off) := ⟨_, rfl⟩
  have s5 : Rr w W5 g q s p5 b5 (⟨5, 0, 0, 0, 0, v_part, 0, v_off, 0, false, noBt⟩ : Rq) none 0 0 := by rw [hW5]; exact t5.put (x' := (⟨5, 0, 0, 0, 0, v_part, 0, v_off, 0, false, noBt⟩ : Rq)) rfl rfl
  have HX5 := Lib.hid hW5
  clear hW5 s4 rd5 k5 t5
  obtain ⟨v_most, p6, b6, h6⟩ := numIs_of s p5 b5 0 1099511627776
  have H6 := Lib.hid h6
  have q6 := h6.le q5
  clear h6
  go_wp2_with fail
  rw [← HX5.out]
  clear e5 o5 f5 HX5
  refine (ref_number_all g s p5 W5 b5 0 1099511627776 v_most p6 b6 H6.out s5.rd hss q5).mono ?_
  rintro e V6 ⟨rfl, rd6, k6⟩
  have t6 := s5.read rd6 k6
  have e6 : V6.cell? ⟨q, 8, none⟩ = some (.int .i64 0) := t6.v.cell 8 rfl
  have o6 : V6.cell? ⟨q, 0, none⟩ = some (.int .i8 5) := t6.v.cell 0 rfl
  have f6 := t6.v.free 8
  obtain ⟨W6, hW6⟩ : ∃ W, W = V6.setCell ⟨q, 8, none⟩ (.int .i64 v_most) := ⟨_, rfl⟩
  have s6 : Rr w W6 g q s p6 b6 (⟨5, 0, 0, 0, 0, v_part, 0, v_off, v_most, false, noBt⟩ : Rq) none 0 0 := by rw [hW6]; exact t6.put (x' := (⟨5, 0, 0, 0, 0, v_part, 0, v_off, v_most, false, noBt⟩ : Rq)) rfl rfl
  have HX6 := Lib.hid hW6
  clear hW6 s5 rd6 k6 t6
  obtain ⟨v_yes, p7, b7, h7⟩ := flagIs_of s p6 b6
  have H7 := Lib.hid h7
  have q7 := h7.le q6
  clear h7
  go_wp2_with fail
  rw [← HX6.out]
  clear e6 o6 f6 HX6
  refine (ref_flag_all g s p6 W6 b6 v_yes p7 b7 H7.out s6.rd hss).mono ?_
  rintro e V7 ⟨rfl, rd7, k7⟩
  have t7 := s6.read rd7 k7
  have e7 : V7.cell? ⟨q, 9, none⟩ = some (.bool false) := t7.v.cell 9 rfl
  have o7 : V7.cell? ⟨q, 0, none⟩ = some (.int .i8 5) := t7.v.cell 0 rfl
  have f7 := t7.v.free 9
  obtain ⟨W7, hW7⟩ : ∃ W, W = V7.setCell ⟨q, 9, none⟩ (.bool v_yes) := ⟨_, rfl⟩
  have s7 : Rr w W7 g q s p7 b7 (⟨5, 0, 0, 0, 0, v_part, 0, v_off, v_most, v_yes, noBt⟩ : Rq) none 0 0 := by rw [hW7]; exact t7.put (x' := (⟨5, 0, 0, 0, 0, v_part, 0, v_off, v_most, v_yes, noBt⟩ : Rq)) rfl rfl
  have HX7 := Lib.hid hW7
  clear hW7 s6 rd7 k7 t7
  obtain ⟨er2, hE⟩ := endIs_of s p7 b7
  have HE := Lib.hid hE
  clear hE
  have hch : ChainIs s (fdsOf (5 : Int)) p0 false (Rq.of 5) (⟨5, 0, 0, 0, 0, v_part, 0, v_off, v_most, v_yes, noBt⟩ : Rq) p7 b7 := by
    rw [show fdsOf (5 : Int) = [.part, .off, .most, .yes] by simp [fdsOf]]
    exact ⟨_, _, _, ⟨_, H4.out, rfl⟩, ⟨_, _, _, ⟨_, H5.out, rfl⟩, ⟨_, _, _, ⟨_, H6.out, rfl⟩, ⟨_, _, _, ⟨_, H7.out, rfl⟩, ⟨rfl, rfl, rfl⟩⟩⟩⟩⟩
  have HCH := Lib.hid (hch.qis HN.out q7)
  clear hch
  go_wp2_with fail
  rw [← HX7.out]
  clear e7 o7 f7 HX7
  refine (ref_end g s p7 b7 er2 W7 HE.out s7.rd).mono ?_
  rintro e WE ⟨rfl, ne, rfl⟩
  have sE := s7.next (show Below W7.heap.size W7 (W7.drewN ne) from ⟨rfl, rfl, rfl, Nat.le_refl _, fun _ _ => rfl⟩)
  generalize W7.drewN ne = WE at sE ⊢
  clear s7
  have vE := sE.v
  have rE := sE.res
  rcases HE.out with ⟨hb0, hp9, rfl⟩ | ⟨hb0, rfl⟩
  · obtain ⟨mq, hmq⟩ := iff_of' (Rq.Good (⟨5, 0, 0, 0, 0, v_part, 0, v_off, v_most, v_yes, noBt⟩ : Rq))
    have HMQ := Lib.hid hmq
    clear hmq
    go_wp2_with (refine wpList_load_want (by rfl) _ rfl Tryz.underlying29 rfl rfl vE (by simp only [qvals]; kernel_rfl) ?_)
    refine (ref_qmay_any (⟨5, 0, 0, 0, 0, v_part, 0, v_off, v_most, v_yes, noBt⟩ : Rq) none 0 0 WE.heap.size mq WE sE.own.qin (Nat.le_refl _) HMQ.out).mono ?_
    rintro e WF ⟨rfl, hbF⟩
    have sF := sE.next hbF
    have vF := sF.v
    have rF := sF.res
    have oF := sF.own
    have bF := sF.below
    have hgF := sF.hg
    have hqF := sF.hq
    clear sE vE rE hbF sF
    cases mq with
    | true =>
      have hz : QIs s (⟨5, 0, 0, 0, 0, v_part, 0, v_off, v_most, v_yes, noBt⟩ : Rq) 0 := by
        rcases HCH.out with ⟨_, _, _, h⟩ | ⟨h, _⟩
        · exact h
        · exfalso
          rcases h with h | h | h
          · first | (cases h; done) | (rw [hb0] at h; cases h)
          · exact h hp9
          · exact h (HMQ.out.1 (by first | rfl | trivial))
      obtain ⟨rfl, rfl⟩ := HQ.out.one hz
      clear HQ HCH HE HN HMQ hz
      go_wp2_with (first | refine wpList_load_var rfl _ rfl Tryz.underlying29 rfl rfl vF (by simp only [qvals]; kernel_rfl) ?_ | (refine wpList_store_var rfl _ _ rfl rfl rfl rF rfl (by simp only [qvals]; kernel_rfl) (qvals_one _ _ _ _) ?_; intro W9 v9 o9))
      refine bodyPost_ret (results_var_tmp rfl rfl rfl v9 Tryz.underlying29 rfl (by simp only [qvals]; kernel_rfl)) rfl ?_
      exact ⟨Only.below bF o9 (Nat.le_refl _), none, 0, 0, rfl, (oF.only o9 (by omega)).down (by omega)⟩
    | false =>
      have hz : QIs s noRq 70 := by
        rcases HCH.out with ⟨_, _, h, _⟩ | ⟨_, h⟩
        · have := HMQ.out.2 h; cases this
        · exact h
      clear HMQ
      obtain ⟨rfl, rfl⟩ := HQ.out.one hz
      clear HQ HCH HE HN
      go_wp2_with (refine wpList_store_var rfl _ _ rfl rfl rfl rF rfl (by kernel_rfl) (by simp [Value.oneCell']) ?_; intro W9 v9 o9)
      refine bodyPost_ret (results_var_tmp rfl rfl rfl v9 Tryz.underlying29 rfl (by kernel_rfl)) rfl ?_
      exact ⟨Only.below bF o9 (Nat.le_refl _), none, 0, 0, rfl, bare_qown _ _ rfl⟩
  · have hz : QIs s noRq 70 := by
      rcases HCH.out with ⟨h1, h2, _, _⟩ | ⟨_, h⟩
      · exfalso
        rcases hb0 with h | h
        · first | (cases h; done) | (rw [h1] at h; cases h)
        · exact h h2
      · exact h
    have bE := sE.below
    clear sE vE
    obtain ⟨rfl, rfl⟩ := HQ.out.one hz
    clear HQ HCH HE HN
    go_wp2_with (refine wpList_store_var rfl _ _ rfl rfl rfl rE rfl (by kernel_rfl) (by simp [Value.oneCell']) ?_; intro W9 v9 o9)
    refine bodyPost_ret (results_var_tmp rfl rfl rfl v9 Tryz.underlying29 rfl (by kernel_rfl)) rfl ?_
    exact ⟨Only.below bE o9 (Nat.le_refl _), none, 0, 0, rfl, bare_qown _ _ rfl⟩

end Go.Proofs.YtfcifblbapadpaaGreatDoor
