/-
  Contracts of request's Bytes and May. Conditions: those that each theorem names.
-/
import Derived.Test.YtfcifblbapadpaaGreatDoorReqWritten
import Derived.Test.YtfcifblbapadpaaGreatDoorReqRead
import Derived.Test.YtfcifblbapadpaaGreatDoorReqSame
namespace Go.Proofs.YtfcifblbapadpaaGreatDoor
open Go.RowKit

/-- What Bytes of x is. -/
def YIs (x : Rq) (ys : List UInt8) (er : Int) : Prop := (x.Good ∧ ys = x.enc ∧ er = 0) ∨ (¬ x.Good ∧ ys = [] ∧ er = 2)
theorem yIs_of (x : Rq) : ∃ ys er, YIs x ys er := by
  by_cases h : x.Good
  · exact ⟨_, _, .inl ⟨h, rfl, rfl⟩⟩
  · exact ⟨_, _, .inr ⟨h, rfl, rfl⟩⟩
theorem YIs.one {x : Rq} {ys zs : List UInt8} {e d : Int} (h : YIs x ys e) (k : YIs x zs d) : ys = zs ∧ e = d := by
  rcases h with ⟨h1, rfl, rfl⟩ | ⟨h1, rfl, rfl⟩ <;> rcases k with ⟨k1, rfl, rfl⟩ | ⟨k1, rfl, rfl⟩
  · exact ⟨rfl, rfl⟩
  · exact absurd h1 k1
  · exact absurd k1 h1
  · exact ⟨rfl, rfl⟩
/-- What Bytes hands back. -/
def BRes (ys : List UInt8) (er : Int) (w : World) (e : Ending) (w' : World) : Prop := Below w.heap.size w w' ∧ ∃ A c l, e = .returned (.tuple #[.slice A l c, .int .i64 er]) ∧ l = ys.length ∧ Seen w' w'.heap.size A (cells ys) ∧ l ≤ c

set_option maxRecDepth 100000 in
set_option maxHeartbeats 2000000 in
theorem qbytes_any (x : Rq) (A : Option Addr) (n c B : Nat) (ys : List UInt8) (er : Int) (w : World) (hx : QIn w B x A n c) (hB : B ≤ w.heap.size) (hr : -128 ≤ x.kind ∧ x.kind ≤ 127) (hy : YIs x ys er) :
    Calls Tryz.prog 8 #[.agg (qvals x A n c)] w (BRes ys er w) := by
  obtain ⟨t, e0, ht⟩ := bytesIs_of x.b
  obtain ⟨z, ez, hz⟩ := qIs_of ⟨(wrAll x t).toArray⟩
  have hfull : x.Good → z = x ∧ ez = 0 := fun hg => by
    have h9 : QIs ⟨(wrAll x t).toArray⟩ x 0 := .inl ⟨by rw [bytesOf_mk, wrAll_enc ht hg], hg, rfl⟩
    exact ⟨(h9.one hz).1.symm, (h9.one hz).2.symm⟩
  have hle := wrAll_le ht
  have HY := Lib.hid hy
  have HT := Lib.hid ht
  have HTT := Lib.hid ht
  have HZ := Lib.hid hz
  have HFULL := Lib.hid hfull
  obtain ⟨W0, hW0⟩ : ∃ W0, W0 = w.alloc (.cells (qvals x A n c) 29) := ⟨_, rfl⟩
  have v0 : Var W0 w.heap.size 29 (qvals x A n c) := by rw [hW0]; exact Var.new _ _ _
  have b0 : Below w.heap.size w W0 := by rw [hW0]; exact below_new _
  have HX := Lib.hid (hx.below (b0.mono hB))
  have hB0 := Nat.le_trans hB b0.size
  simp only [qvals] at hW0 ⊢
  have HW0 := Lib.hid hW0
  clear hW0 hx hy ht hz hfull
  go_enter Tryz.func8, Tryz.ntmps8
  go_upto_region 1 with fail
  rw [← HW0.out]
  go_wp2_with (refine wpList_load_var rfl _ rfl Tryz.underlying29 rfl rfl v0 (by kernel_rfl) ?_)
  refine (written_any x A n c B t e0 W0 HX.out hB0 HT.out hr).mono ?_
  rintro e W1 ⟨A1, c1, l1, rfl, hl1, hs1, hc1, hb1⟩
  have v1 := v0.below hb1 v0.lt
  have b1 := b0.trans (hb1.mono b0.size)
  have x1 := HX.out.below (hb1.mono hB0)
  have hB1 : B ≤ W1.heap.size := Nat.le_trans hB0 hb1.size
  have HL1 := Lib.hid hl1
  have HS1 := Lib.hid hs1
  have hl836 : l1 ≤ 836 := by omega
  clear v0 hl1 hs1 hb1 HT
  go_wp2_with fail
  refine (rread_any A1 l1 c1 W1.heap.size (wrAll x t) z ez W1 HZ.out HS1.out (Nat.le_refl _) HL1.out (by omega)).mono ?_
  rintro e W2 ⟨hb2, hcase⟩
  have v2 := v1.below hb2 v1.lt
  have b2 := b1.trans (hb2.mono b1.size)
  have hs2 := HS1.out.below hb2
  have hz12 := hb2.size
  have x2 := (x1.below (hb2.mono hB1)).up (Nat.le_trans hB1 hb2.size)
  clear v1 x1 HX
  rcases hcase with ⟨rfl, A2, n2, c2, rfl, ho2⟩ | ⟨rfl, rfl, hh, fld, rfl, h1, h2⟩
  · have hzi : QIn W2 W2.heap.size z A2 n2 c2 := ho2.qin
    obtain ⟨m, hm⟩ := iff_of' (z = x)
    have HM := Lib.hid hm
    have zz := hzi.up (Nat.le_refl _)
    clear hm ho2 hzi hb2
    go_wp2_with (first
      | (refine wpList_store_var rfl _ _ rfl rfl rfl (Var.new W2 #[.int .i8 0, .int .i64 0, .int .i64 0, .int .i64 0, .int .i64 0, .int .i64 0, .int .i64 0, .int .i64 0, .int .i64 0, .bool false, .int .i64 0, .int .i64 0, .int .i64 0, .bool false, .slice none 0 0] 29) rfl (by kernel_rfl) (qvals_one z A2 n2 c2) ?_; intro W3 v3 o3; have b3 : Below W2.heap.size W2 W3 := Only.below (below_new _) o3 (Nat.le_refl _); have v23 := v2.below b3 v2.lt)
      | refine wpList_load_want (by rfl) _ rfl Tryz.underlying29 rfl rfl v3 (by kernel_rfl) ?_
      | refine wpList_load_want (by rfl) _ rfl Tryz.underlying29 rfl rfl v23 (by kernel_rfl) ?_)
    refine (qsame_any z x A2 A n2 n c2 c W2.heap.size m W3 (zz.below b3) (x2.below b3) b3.size HM.out).mono ?_
    rintro e W4 ⟨rfl, hb4⟩
    have b4 := b2.trans ((b3.trans (hb4.mono b3.size)).mono b2.size)
    have hs4 := (hs2.up (Nat.le_trans (show W1.heap.size ≤ W2.heap.size by omega) (Nat.le_refl _))).below (b3.trans (hb4.mono b3.size))
    cases m with
    | true =>
      have hzx := HM.out.1 rfl
      have hg : x.Good := by
        rcases HZ.out with ⟨_, h, _⟩ | ⟨_, _, h⟩
        · rw [← hzx]; exact h
        · cases h
      obtain ⟨rfl, rfl⟩ := HY.out.one (.inl ⟨hg, rfl, rfl⟩)
      have hwa := wrAll_enc HTT.out hg
      clear HM HZ HFULL HY v3 v23 v2 x2 zz hzx o3
      go_wp2
      go_ret2
      refine ⟨b4, A1, c1, l1, rfl, by rw [HL1.out, hwa], ?_, hc1⟩
      rw [← hwa]
      exact hs4.up (by have := b3.size; have := hb4.size; omega)
    | false =>
      have hg : ¬ x.Good := fun h => by
        have := HM.out.2 (HFULL.out h).1
        cases this
      obtain ⟨rfl, rfl⟩ := HY.out.one (.inr ⟨hg, rfl, rfl⟩)
      clear HM HZ HFULL HY v3 v23 v2 x2 zz o3 hs4
      go_wp2
      go_ret2
      exact ⟨b4, none, 0, 0, rfl, rfl, Seen.nil _ _ _, Nat.le_refl _⟩
  · have hg : ¬ x.Good := fun h => by
      have := (HFULL.out h).2
      cases this
    obtain ⟨rfl, rfl⟩ := HY.out.one (.inr ⟨hg, rfl, rfl⟩)
    clear HZ HFULL HY x2 hs2 HL1 HS1
    simp only [qzero]
    go_wp2_with (refine wpList_store_var rfl _ _ rfl rfl rfl (Var.new W2 #[.int .i8 0, .int .i64 0, .int .i64 0, .int .i64 0, .int .i64 0, .int .i64 0, .int .i64 0, .int .i64 0, .int .i64 0, .bool false, .int .i64 0, .int .i64 0, .int .i64 0, .bool false, .slice none 0 0] 29) rfl (by kernel_rfl) (by simp [Value.oneCell']) ?_; intro W3 v3 o3; have b3 : Below W2.heap.size W2 W3 := Only.below (below_new _) o3 (Nat.le_refl _))
    go_ret2
    exact ⟨b2.trans (b3.mono b2.size), none, 0, 0, rfl, rfl, Seen.nil _ _ _, Nat.le_refl _⟩

end Go.Proofs.YtfcifblbapadpaaGreatDoor
