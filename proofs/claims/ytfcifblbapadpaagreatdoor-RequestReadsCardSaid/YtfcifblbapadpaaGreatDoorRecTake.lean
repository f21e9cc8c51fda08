/-
  The contract of record's Take: what it returns and what it does to memory. Conditions: those that the theorem names.
-/
import Derived.Test.YtfcifblbapadpaaGreatDoorRecRead
import Derived.Test.YtfcifblbapadpaaGreatDoorRecMayB
namespace Go.Proofs.YtfcifblbapadpaaGreatDoor
open Go.RowKit

/-- The reader, the records, what was kept: under stores to the result's variable. -/
def TFin (T : TypeId) (w wr : World) (g : Nat) (s : ByteArray) (p : Nat) (bad : Bool) (A : Option Addr) (k c : Nat) (rs : List Rc) : Prop :=
  Rd T wr g s p bad ∧ wr.ownsRow (w.heap.size + 1) 71 2 (.slice A k c) k (rcells rs) ∧ Kept [g] w wr ∧ g < w.heap.size
section
variable {T : TypeId} {w wr w' : World} {g : Nat} {s : ByteArray} {p p' : Nat} {bad bad' : Bool} {A : Option Addr} {k c : Nat} {rs : List Rc}
theorem TFin.set (h : TFin T w wr g s p bad A k c rs) (j : Nat) (u : Value) : TFin T w (wr.setCell ⟨w.heap.size, j, none⟩ u) g s p bad A k c rs := by
  obtain ⟨h1, h2, h3, h4⟩ := h
  exact ⟨Var.other h1 _ _ (by omega), own_set h2 (Nat.lt_succ_self w.heap.size) _, h3.setCell (.inr (Nat.le_refl _)) _, h4⟩
theorem TFin.next (h : TFin T w wr g s p bad A k c rs) (hb : Below wr.heap.size wr w') : TFin T w w' g s p bad A k c rs :=
  ⟨Var.below h.1 hb (Var.lt h.1), own_next h.2.1 hb, h.2.2.1.trans (Kept.of_below hb), h.2.2.2⟩
theorem TFin.read (h : TFin T w wr g s p bad A k c rs) (hr : Rd T w' g s p' bad') (hk : Kept [g] wr w') : TFin T w w' g s p' bad' A k c rs :=
  ⟨hr, own_kept h.2.1 hk (by have := h.2.2.2; simp; omega), h.2.2.1.trans hk, h.2.2.2⟩
theorem TFin.zero (h : TFin T w wr g s p bad A k c rs) : TFin T w wr g s p bad none 0 0 [] := ⟨h.1, World.ownsRow_nil _ _ _ _, h.2.2⟩
theorem TFin.out (h : TFin T w wr g s p bad A k c rs) : Rd T wr g s p bad ∧ wr.ownsRow w.heap.size 71 2 (.slice A k c) k (rcells rs) ∧ Kept [g] w wr := ⟨h.1, own_down h.2.1 (by omega), h.2.2.1⟩
theorem TFin.five (h : TFin T w wr g s p bad A k c rs) (u0 u1 u2 u3 u4 : Value) : TFin T w (((((wr.setCell ⟨w.heap.size, 0, none⟩ u0).setCell ⟨w.heap.size, 1, none⟩ u1).setCell ⟨w.heap.size, 2, none⟩ u2).setCell ⟨w.heap.size, 3, none⟩ u3).setCell ⟨w.heap.size, 4, none⟩ u4) g s p bad A k c rs :=
  ((((h.set 0 u0).set 1 u1).set 2 u2).set 3 u3).set 4 u4
end
/-- What Take hands back. -/
def TakeRes (T : TypeId) (g : Nat) (s : ByteArray) (w : World) (b : Bt) (p' : Nat) (bad' : Bool) (e : Ending) (w' : World) : Prop :=
  ∃ A c, e = .returned (.agg #[.int .i64 b.pid, .int .i64 b.ep, .int .i64 b.sq, .bool b.tx, .slice A b.rs.length c]) ∧ Rd T w' g s p' bad' ∧ w'.ownsRow w.heap.size 71 2 (.slice A b.rs.length c) b.rs.length (rcells b.rs) ∧ Kept [g] w w'

set_option maxRecDepth 100000 in
set_option maxHeartbeats 2000000 in
theorem take_any (g : Nat) (s : ByteArray) (p : Nat) (bad : Bool) (b : Bt) (p' : Nat) (bad' : Bool) (w : World) (h : TakeIs s p bad b p' bad') (hr : Rd 78 w g s p bad) (hx : s.size ≤ 1000000) (hp : p ≤ s.size) :
    Calls Tryz.prog 71 #[.pointer (some ⟨g, 0, none⟩)] w (TakeRes 78 g s w b p' bad') := by
  obtain ⟨y, q, cb, hraw, rfl, hcase⟩ := h
  have hmf := mk_any
  have hgw : g < w.heap.size := Var.lt hr
  have hsm := hraw.small
  have HRAW := Lib.hid hraw
  have HC := Lib.hid hcase
  clear hraw hcase
  obtain ⟨pid, ep, sq, tx, rs⟩ := y
  simp only at hsm
  obtain ⟨-, -, -, hl4, hgood⟩ := hsm
  have hsz : ∀ r ∈ rs, r.k.size ≤ 9223372036854775807 ∧ r.v.size ≤ 9223372036854775807 := fun r hr => by have := hgood r hr; unfold Rc.Good at this; omega
  have HSZ := Lib.hid hsz
  clear hsz hgood
  go_enter Tryz.func71, Tryz.ntmps71
  go_wp2_with fail
  obtain ⟨W1, hW1⟩ : ∃ W1, W1 = w.alloc (.cells #[.int .i64 0, .int .i64 0, .int .i64 0, .bool false, .slice none 0 0] 27) := ⟨_, rfl⟩
  have v1 : Var W1 w.heap.size 27 #[.int .i64 0, .int .i64 0, .int .i64 0, .bool false, .slice none 0 0] := by rw [hW1]; exact Var.new _ _ _
  have r1 : Rd 78 W1 g s p bad := by rw [hW1]; exact Var.alloc hr _
  have k1 : Kept [g] w W1 := by rw [hW1]; exact (Kept.refl _ _).alloc _
  have z1 : W1.heap.size = w.heap.size + 1 := by rw [hW1]; simp
  rw [← hW1]
  clear hW1 hr
  refine (rec_read g s p bad _ _ cb W1 HRAW.out r1 hx hp).mono ?_
  rintro e W2 ⟨A, c, rfl, r2, o2, k2⟩
  simp only at o2 ⊢
  rw [z1] at o2
  have t2 : TFin 78 w W2 g s p' cb A rs.length c rs := ⟨r2, o2, k1.trans k2, hgw⟩
  have v2 := v1.kept k2 (by simp; omega)
  clear r1 k1 v1 r2 o2 k2 hmf z1 HRAW
  obtain ⟨x, hxx⟩ : ∃ x, x = W2.heap.size := ⟨_, rfl⟩
  obtain ⟨W3, hW3⟩ : ∃ W3, W3 = W2.alloc (.cells #[.int .i64 pid, .int .i64 ep, .int .i64 sq, .bool tx, .slice A rs.length c] 27) := ⟨_, rfl⟩
  have hxw : w.heap.size < x := by rw [hxx]; exact v2.lt
  have t3 : TFin 78 w W3 g s p' cb A rs.length c rs := by rw [hW3]; exact t2.next (below_new _)
  have v3 : Var W3 w.heap.size 27 #[.int .i64 0, .int .i64 0, .int .i64 0, .bool false, .slice none 0 0] := by rw [hW3]; exact v2.alloc _
  have b3 : Var W3 x 27 #[.int .i64 pid, .int .i64 ep, .int .i64 sq, .bool tx, .slice A rs.length c] := by rw [hW3, hxx]; exact Var.new _ _ _
  have hm := fun m hm => may_any A rs.length c W3.heap.size rs pid ep sq tx m W3 rfl hm (by obtain ⟨A', c', he, hs, _⟩ := own_formN t3.2.1; injection he with h1 _ _; rw [h1]; exact hs) (Nat.le_refl _) (by omega) HSZ.out
  obtain ⟨n, hn⟩ : ∃ n, n = rs.length := ⟨_, rfl⟩
  rw [← hn] at t3 b3 hm hW3 ⊢
  have HN := Lib.hid hn
  have HM := Lib.hid hm
  have HX := Lib.hid hxx
  have HW3 := Lib.hid hW3
  clear t2 v2 hm hn hxx hW3
  go_wp2_with fail
  rw [← HW3.out, ← HX.out]
  by_cases hg : Bt.Good ⟨pid, ep, sq, tx, rs⟩
  · refine (HM.out true ⟨fun _ => hg, fun _ => rfl⟩).mono ?_
    rintro e W4 ⟨rfl, hb4⟩
    have t4 := t3.next hb4
    have v4 := v3.below hb4 v3.lt
    have b4 := b3.below hb4 b3.lt
    clear t3 v3 b3 hb4 HM
    obtain ⟨d0, d1, d2, d3, d4, f1⟩ := v4.cells5
    obtain ⟨e0, e1, e2, e3, e4, f2⟩ := b4.cells5
    obtain ⟨g0, g1, g2⟩ := Rd.cells t4.1
    have l1 := v4.lt
    have l2 := b4.lt
    cases cb with
    | false =>
      obtain rfl : false = bad' := by
        rcases HC.out with ⟨_, _, _, h⟩ | ⟨h | h, _⟩
        · exact h.symm
        · cases h
        · exact absurd hg h
      obtain ⟨b', hb'⟩ : ∃ b', b' = b := ⟨_, rfl⟩
      have HB : Hid (b = ⟨pid, ep, sq, tx, rs⟩) := by
        rcases HC.out with ⟨_, _, h, _⟩ | ⟨h | h, _⟩
        · exact h
        · cases h
        · exact absurd hg h
      have hfin := t4.five (.int .i64 pid) (.int .i64 ep) (.int .i64 sq) (.bool tx) (.slice A n c)
      clear HC hb' t4
      go_wp2
      refine bodyPost_ret (v := .agg #[.int .i64 pid, .int .i64 ep, .int .i64 sq, .bool tx, .slice A n c]) (by simp [results, Tryz.results71, go_sem, d0, d1, d2, d3, d4]) rfl ?_
      rw [HB.out]
      have hnn := HN.out
      exact ⟨A, c, by simp only; rw [← hnn], by simp only; rw [← hnn]; exact hfin.out⟩
    | true =>
      obtain ⟨rfl, rfl⟩ : noBt = b ∧ true = bad' := by
        rcases HC.out with ⟨h, _⟩ | ⟨_, h, h'⟩
        · cases h
        · exact ⟨h.symm, h'.symm⟩
      have hfin := t4.zero.five (.int .i64 0) (.int .i64 0) (.int .i64 0) (.bool false) (.slice none 0 0)
      clear HC t4
      go_wp2
      refine bodyPost_ret (v := .agg #[.int .i64 0, .int .i64 0, .int .i64 0, .bool false, .slice none 0 0]) (by simp [results, Tryz.results71, go_sem, d0, d1, d2, d3, d4]) rfl ?_
      exact ⟨none, 0, rfl, hfin.out⟩
  · refine (HM.out false ⟨by simp, fun h => absurd h hg⟩).mono ?_
    rintro e W4 ⟨rfl, hb4⟩
    have t4 := t3.next hb4
    have v4 := v3.below hb4 v3.lt
    clear t3 v3 b3 hb4 HM
    obtain ⟨rfl, rfl⟩ : noBt = b ∧ true = bad' := by
      rcases HC.out with ⟨_, h, _⟩ | ⟨_, h, h'⟩
      · exact absurd h hg
      · exact ⟨h.symm, h'.symm⟩
    clear HC
    go_wp2_with fail
    refine (wrong_ptr g s p' cb W4 t4.1).mono ?_
    rintro e W5 ⟨rfl, r5, k5⟩
    have t5 := t4.read r5 k5
    have v5 := v4.kept k5 (by simp; omega)
    obtain ⟨d0, d1, d2, d3, d4, f1⟩ := v5.cells5
    have l1 := v5.lt
    have hfin := t5.zero.five (.int .i64 0) (.int .i64 0) (.int .i64 0) (.bool false) (.slice none 0 0)
    clear t4 t5 v4 r5 k5
    go_wp2
    refine bodyPost_ret (v := .agg #[.int .i64 0, .int .i64 0, .int .i64 0, .bool false, .slice none 0 0]) (by simp [results, Tryz.results71, go_sem, d0, d1, d2, d3, d4]) rfl ?_
    exact ⟨none, 0, rfl, hfin.out⟩
end Go.Proofs.YtfcifblbapadpaaGreatDoor
