/-
  Contracts of the document's own Read of requests. Conditions: those that each theorem names.
-/
import Derived.Test.YtfcifblbapadpaaGreatDoorReqReadRA
import Derived.Test.YtfcifblbapadpaaGreatDoorReqReadRB
namespace Go.Proofs.YtfcifblbapadpaaGreatDoor
open Go.RowKit

set_option maxRecDepth 100000 in
set_option maxHeartbeats 4000000 in
theorem ref_qread_bad (A : Option Addr) (l c B : Nat) (bs : List UInt8) (k : Int) (x : Rq) (er : Int) (p0 : Nat) (w : World) (hn : NumIs ⟨bs.toArray⟩ 0 false 0 9 k p0 true) (hq : QIs ⟨bs.toArray⟩ x er) (hs : Seen w B A (cells bs)) (hB : B ≤ w.heap.size) (hl : l = bs.length) (hx : l ≤ 1000000) :
    Calls Tryz.prog 6 #[.slice A l c] w (GetRes x er w) := by
  obtain ⟨rfl, rfl⟩ := hq.one (kind_wrong hn)
  obtain rfl : k = 0 := by
    rcases hn with ⟨_, _, _, _, _, _, _, _, h⟩ | ⟨_, h, _⟩
    · cases h
    · exact h
  obtain ⟨s, hS⟩ : ∃ s : ByteArray, s = ⟨bs.toArray⟩ := ⟨_, rfl⟩
  rw [← hS] at hn
  have hss : s.size ≤ 1000000 := by rw [hS, ← bytesOf_length, bytesOf_mk]; omega
  have HN := Lib.hid hn
  obtain ⟨W0, hW0⟩ : ∃ W0, W0 = w.alloc (.cells #[.int .i8 0, .int .i64 0, .int .i64 0, .int .i64 0, .int .i64 0, .int .i64 0, .int .i64 0, .int .i64 0, .int .i64 0, .bool false, .int .i64 0, .int .i64 0, .int .i64 0, .bool false, .slice none 0 0] 29) := ⟨_, rfl⟩
  have v0 : Var W0 w.heap.size 29 #[.int .i8 0, .int .i64 0, .int .i64 0, .int .i64 0, .int .i64 0, .int .i64 0, .int .i64 0, .int .i64 0, .int .i64 0, .bool false, .int .i64 0, .int .i64 0, .int .i64 0, .bool false, .slice none 0 0] := by rw [hW0]; exact Var.new _ _ _
  have b0 : Below w.heap.size w W0 := by rw [hW0]; exact below_new _
  have hst : (convert 22 9 (.slice A l c)).run Tryz.prog W0 = .ok (.string s) W0 := by
    rw [hS]
    exact str_now (hs.below (b0.mono hB)) _ _ _ l c hl Tryz.underlying22 Tryz.underlying5 Tryz.underlying9
  have HW0 := Lib.hid hW0
  clear hW0 hs hS hl hx hn
  go_enter Tryz.func6, Tryz.ntmps6
  go_upto_region 1 with fail
  rw [← HW0.out]
  go_wp2_with fail
  refine (ref_new s W0).mono ?_
  rintro e W1 ⟨rfl, rd1, b1⟩
  clear hst
  obtain ⟨g, hg⟩ : ∃ g, g = W0.heap.size := ⟨_, rfl⟩
  rw [← hg] at rd1 ⊢
  have v1 := v0.below b1 v0.lt
  have b01 := b0.trans (b1.mono b0.size)
  have hwg : w.heap.size < g := by have := v0.lt; omega
  clear hg v0 b1 HW0
  go_wp2_with fail
  refine (ref_number_all g s 0 W1 false 0 9 0 p0 true HN.out rd1 hss (Nat.zero_le _)).mono ?_
  rintro e W2 ⟨rfl, rd2, k2⟩
  have v2 := v1.kept k2 (by simp; omega)
  have b02 := b01.trans (k2.below b01.size (by intro y hy; simp at hy; omega))
  obtain ⟨q, hqq⟩ : ∃ q, q = W2.heap.size := ⟨_, rfl⟩
  obtain ⟨W3, hW3⟩ : ∃ W3, W3 = W2.alloc (.cells #[.int .i8 0, .int .i64 0, .int .i64 0, .int .i64 0, .int .i64 0, .int .i64 0, .int .i64 0, .int .i64 0, .int .i64 0, .bool false, .int .i64 0, .int .i64 0, .int .i64 0, .bool false, .slice none 0 0] 29) := ⟨_, rfl⟩
  have hgq : g < q := by rw [hqq]; exact Var.lt rd2
  have hbn : Below W2.heap.size W2 W3 := by rw [hW3]; exact below_new _
  have s3 : Rr w W3 g q s p0 true (Rq.of 0) none 0 0 := ⟨Var.below rd2 hbn (Var.lt rd2), by rw [hW3, hqq]; exact Var.new _ _ _, v2.below hbn v2.lt, bare_qown _ _ rfl, b02.trans (hbn.mono b02.size), hwg, hgq⟩
  have HW3 := Lib.hid hW3
  clear hW3 rd1 rd2 k2 v1 v2 b01 b02 hbn b0
  go_upto_region 3 with fail
  rw [← HW3.out, ← hqq]
  clear HW3 hqq
  obtain ⟨-, -, d2⟩ := s3.rd.cells
  have r3 := s3.res
  have b3 := s3.below
  clear HN s3
  go_wp2_with (refine wpList_store_var rfl _ _ rfl rfl rfl r3 rfl (by kernel_rfl) (by simp [Value.oneCell']) ?_; intro W9 v9 o9)
  refine bodyPost_ret (results_var_tmp rfl rfl rfl v9 Tryz.underlying29 rfl (by kernel_rfl)) rfl ?_
  exact ⟨Only.below b3 o9 (Nat.le_refl _), none, 0, 0, rfl, bare_qown _ _ rfl⟩

theorem ref_qread_any (A : Option Addr) (l c B : Nat) (bs : List UInt8) (x : Rq) (er : Int) (w : World) (hq : QIs ⟨bs.toArray⟩ x er) (hs : Seen w B A (cells bs)) (hB : B ≤ w.heap.size) (hl : l = bs.length) (hx : l ≤ 1000000) :
    Calls Tryz.prog 6 #[.slice A l c] w (GetRes x er w) := by
  obtain ⟨k, p0, b0, hn⟩ := numIs_of ⟨bs.toArray⟩ 0 false 0 9
  cases b0 with
  | true => exact ref_qread_bad A l c B bs k x er p0 w hn hq hs hB hl hx
  | false =>
    have hk := hn.in (by omega)
    by_cases h0 : k = 0
    · subst h0; exact ref_qread_0 A l c B bs x er p0 w hn hq hs hB hl hx
    by_cases h1 : k = 1
    · subst h1; exact ref_qread_1 A l c B bs x er p0 w hn hq hs hB hl hx
    by_cases h2 : k = 2
    · subst h2; exact ref_qread_2 A l c B bs x er p0 w hn hq hs hB hl hx
    by_cases h3 : k = 3
    · subst h3; exact ref_qread_3 A l c B bs x er p0 w hn hq hs hB hl hx
    by_cases h4 : k = 4
    · subst h4; exact ref_qread_4 A l c B bs x er p0 w hn hq hs hB hl hx
    by_cases h5 : k = 5
    · subst h5; exact ref_qread_5 A l c B bs x er p0 w hn hq hs hB hl hx
    by_cases h6 : k = 6
    · subst h6; exact ref_qread_6 A l c B bs x er p0 w hn hq hs hB hl hx
    by_cases h7 : k = 7
    · subst h7; exact ref_qread_7 A l c B bs x er p0 w hn hq hs hB hl hx
    by_cases h8 : k = 8
    · subst h8; exact ref_qread_8 A l c B bs x er p0 w hn hq hs hB hl hx
    by_cases h9 : k = 9
    · subst h9; exact ref_qread_9 A l c B bs x er p0 w hn hq hs hB hl hx
    omega
end Go.Proofs.YtfcifblbapadpaaGreatDoor
