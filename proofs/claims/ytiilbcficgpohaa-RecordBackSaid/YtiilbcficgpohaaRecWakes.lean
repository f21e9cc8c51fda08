/-
  The law's 'wakes' of record: whatever the world, it returns true and turns nothing that was there. No conditions.
-/
import Derived.Test.YtiilbcficgpohaaRecBytes
import Derived.Test.YtiilbcficgpohaaRecRows
namespace Go.Proofs.Ytiilbcficgpohaa
open Go.RowKit

def wkA : ByteArray := ⟨#[97]⟩
def wkB : ByteArray := ⟨#[98]⟩
theorem wk_good : Bt.Good ⟨((1 : Nat) : Int), ((0 : Nat) : Int), ((2 : Nat) : Int), false, [⟨wkA, wkB⟩]⟩ := ⟨⟨by decide, by decide⟩, ⟨by decide, by decide⟩, ⟨by decide, by decide⟩, ⟨by decide, by decide⟩, by intro r hr; simp at hr; subst hr; exact ⟨by decide, by decide⟩⟩
theorem wk_enc : Bt.enc ⟨((1 : Nat) : Int), ((0 : Nat) : Int), ((2 : Nat) : Int), false, [⟨wkA, wkB⟩]⟩ = [1, 0, 2, 0, 1, 1, 97, 1, 98] := by
  have e : ∀ n, n < 128 → VP.enc n = [UInt8.ofNat n] := fun n h => VP.enc_small h
  have s1 : wkA.size = 1 := rfl
  have s2 : wkB.size = 1 := rfl
  simp only [Bt.enc, encRs, Rc.enc, Int.toNat_natCast, List.length_cons, List.length_nil, s1, s2, Nat.zero_add]
  rw [e 1 (by decide), e 0 (by decide), e 2 (by decide)]
  rfl
theorem wk_rows : rowsOf ⟨1, 0, 2, false, [⟨wkA, wkB⟩]⟩ 7 = [⟨7, 1, 2, wkA, wkB⟩] := by
  simp [rowsOf, rowOf, wrap64]
theorem wk_bytes (A : Option Addr) (c B : Nat) (W : World) (hs : Seen W B A (rcells [⟨wkA, wkB⟩])) (hB : B ≤ W.heap.size) : Calls Try.prog 9 #[.agg #[.int .i64 1, .int .i64 0, .int .i64 2, .bool false, .slice A 1 c]] W fun e w' =>
    e = .returned (.tuple #[.string ⟨#[1, 0, 2, 0, 1, 1, 97, 1, 98]⟩, .int .i64 0]) ∧ Below W.heap.size W w' := by
  have h := bytes_yes A 1 c B [⟨wkA, wkB⟩] 1 0 2 false W rfl wk_good hs hB
  rw [wk_enc] at h
  exact h

set_option maxRecDepth 100000 in
set_option maxHeartbeats 1000000 in
theorem wakes_any (w : World) : Calls Try.prog 8 #[] w fun e w' => e = .returned (.bool true) ∧ Below w.heap.size w w' := by
  go_enter Try.func8, Try.ntmps8
  go_wp2_with fail
  obtain ⟨W1, hW1⟩ : ∃ W1, W1 = (w.alloc (.cells #[.string { data := #[97] }, .string { data := #[98] }] 51)).alloc (.cells #[.int .i64 1, .int .i64 0, .int .i64 2, .bool false, .slice (some ⟨w.heap.size, 0, none⟩) 1 1] 24) := ⟨_, rfl⟩
  have v1 : Var W1 (w.heap.size + 1) 24 #[.int .i64 1, .int .i64 0, .int .i64 2, .bool false, .slice (some ⟨w.heap.size, 0, none⟩) 1 1] := by
    have h := Var.new (w.alloc (.cells #[.string { data := #[97] }, .string { data := #[98] }] 51)) #[.int .i64 1, .int .i64 0, .int .i64 2, .bool false, .slice (some ⟨w.heap.size, 0, none⟩) 1 1] 24
    rw [World.size_alloc] at h
    rw [hW1]; exact h
  have s1 : Seen W1 (w.heap.size + 1) (some ⟨w.heap.size, 0, none⟩) (rcells [⟨wkA, wkB⟩]) := by
    have h := Seen.new w (rcells [⟨wkA, wkB⟩]) 51
    rw [hW1]
    exact h.below ((Below.refl _ _).alloc (by simp) _)
  have b1 : Below w.heap.size w W1 := by rw [hW1]; exact ((Below.refl _ _).alloc (Nat.le_refl _) _).alloc (by simp) _
  have z1 : w.heap.size + 1 ≤ W1.heap.size := Nat.le_of_lt v1.lt
  rw [← hW1]
  clear hW1
  refine (wk_bytes _ 1 _ W1 s1 z1).mono ?_
  rintro e W2 ⟨rfl, hb2⟩
  have v2 := v1.below hb2 v1.lt
  have s2 := s1.below (hb2.mono z1)
  have b2 := b1.trans (hb2.mono b1.size)
  have z2 : w.heap.size + 1 ≤ W2.heap.size := Nat.le_of_lt v2.lt
  clear v1 s1 b1 hb2 z1
  obtain ⟨d0, d1, d2, d3, d4, f1⟩ := v2.cells5
  have l2 := v2.lt
  go_wp2_with fail
  refine (rows_any _ 1 1 _ [⟨wkA, wkB⟩] 1 0 2 7 false W2 rfl s2 z2 (by omega) (by intro y hy; simp at hy; subst hy; exact ⟨by decide, by decide⟩)).mono ?_
  rintro e W3 ⟨A3, c3, rfl, s3, hc3, hb3⟩
  rw [wk_rows] at s3
  obtain ⟨bb, off, rfl, hbb, q0, q1, q2, q3, q4⟩ := row_at (k := 0) s3 rfl
  have v3 := v2.below hb3 v2.lt
  have b3 := b2.trans (hb3.mono b2.size)
  clear v2 s2 b2 z2 d0 d1 d2 d3 d4 f1 l2 s3 hb3
  obtain ⟨d0, d1, d2, d3, d4, f1⟩ := v3.cells5
  have l3 := v3.lt
  simp only [Nat.zero_mul, Nat.add_zero, wkA, wkB] at q0 q1 q2 q3 q4
  have hgd : Try.prog.eqGuardType Try.prog.depth 49 = false := by kernel_rfl
  have e5 : (({ data := #[1, 0, 2, 0, 1, 1, 97, 1, 98] } : ByteArray) == { data := #[1, 0, 2, 0, 1, 1, 97, 1, 98] }) = true := by decide
  go_wp2_with fail
  refine (behind_any _ 1 1 1 0 2 3 false W3 (by simp [wrap64])).mono ?_
  rintro e W4 ⟨rfl, hb4⟩
  have b4 := b3.trans (hb4.mono b3.size)
  go_wp2
  go_ret
  exact ⟨rfl, b4⟩
end Go.Proofs.Ytiilbcficgpohaa
