/-
  The contract of record's Read: what it returns and what it does to memory. Conditions: those that the theorem names.
-/
import Derived.Test.YtfcifblbapadpaaGreatDoorRecTake
namespace Go.Proofs.YtfcifblbapadpaaGreatDoor
open Go.RowKit

theorem own_seen {w : World} {base n c s : Nat} {e : TypeId} {A : Option Addr} {xs : List Value} (h : w.ownsRow base e s (.slice A n c) n xs) : Seen w w.heap.size A xs := by
  obtain ⟨A', c', he, hs, _⟩ := own_formN h
  injection he with h1 _ _
  rw [h1]
  exact hs

/-- What Read hands back. -/
def ReadRes (w : World) (b : Bt) (er : Int) (e : Ending) (w' : World) : Prop :=
  ∃ A c, e = .returned (.tuple #[.agg #[.int .i64 b.pid, .int .i64 b.ep, .int .i64 b.sq, .bool b.tx, .slice A b.rs.length c], .int .i64 er]) ∧ w'.ownsRow w.heap.size 71 2 (.slice A b.rs.length c) b.rs.length (rcells b.rs) ∧ Below w.heap.size w w'
/-- The records and what was kept: under stores to the result's variable. -/
def EFin (w wr : World) (A : Option Addr) (k c : Nat) (rs : List Rc) : Prop := wr.ownsRow (w.heap.size + 1) 71 2 (.slice A k c) k (rcells rs) ∧ Below w.heap.size w wr
section
variable {w wr w' : World} {A : Option Addr} {k c : Nat} {rs : List Rc}
theorem EFin.set (h : EFin w wr A k c rs) (j : Nat) (u : Value) : EFin w (wr.setCell ⟨w.heap.size, j, none⟩ u) A k c rs := ⟨own_set h.1 (Nat.lt_succ_self w.heap.size) _, h.2.setCell (Nat.le_refl _) _⟩
theorem EFin.next (h : EFin w wr A k c rs) (hb : Below wr.heap.size wr w') : EFin w w' A k c rs := ⟨own_next h.1 hb, h.2.trans (hb.mono h.2.size)⟩
theorem EFin.zero (h : EFin w wr A k c rs) : EFin w wr none 0 0 [] := ⟨World.ownsRow_nil _ _ _ _, h.2⟩
theorem EFin.five (h : EFin w wr A k c rs) (u0 u1 u2 u3 u4 : Value) : EFin w (((((wr.setCell ⟨w.heap.size, 0, none⟩ u0).setCell ⟨w.heap.size, 1, none⟩ u1).setCell ⟨w.heap.size, 2, none⟩ u2).setCell ⟨w.heap.size, 3, none⟩ u3).setCell ⟨w.heap.size, 4, none⟩ u4) A k c rs :=
  ((((h.set 0 u0).set 1 u1).set 2 u2).set 3 u3).set 4 u4
theorem EFin.out (h : EFin w wr A k c rs) : wr.ownsRow w.heap.size 71 2 (.slice A k c) k (rcells rs) ∧ Below w.heap.size w wr := ⟨own_down h.1 (by omega), h.2⟩
end
theorem endIs_of_read {s : ByteArray} {b x : Bt} {er : Int} {p : Nat} {bad : Bool} (h : (bad = false ∧ p = s.size ∧ er = 0 ∧ b = x) ∨ ((bad = true ∨ p ≠ s.size) ∧ er = 70 ∧ b = noBt)) : EndIs s p bad er := by
  rcases h with ⟨h1, h2, h3, _⟩ | ⟨h1, h2, _⟩
  · exact .inl ⟨h1, h2, h3⟩
  · exact .inr ⟨h1, h2⟩

set_option maxRecDepth 100000 in
set_option maxHeartbeats 2000000 in
theorem read_any (s : ByteArray) (b : Bt) (er : Int) (w : World) (h : ReadIs s b er) (hx : s.size ≤ 1000000) : Calls Tryz.prog 59 #[.string s] w (ReadRes w b er) := by
  obtain ⟨y, p, bad, ht⟩ := takeIs_of s 0 false
  have hor := h.of_take ht
  have HT := Lib.hid ht
  have HE := Lib.hid (endIs_of_read hor)
  have HO := Lib.hid hor
  clear ht hor h
  go_enter Tryz.func59, Tryz.ntmps59
  go_wp2_with fail
  obtain ⟨W1, hW1⟩ : ∃ W1, W1 = w.alloc (.cells #[.int .i64 0, .int .i64 0, .int .i64 0, .bool false, .slice none 0 0] 27) := ⟨_, rfl⟩
  have v1 : Var W1 w.heap.size 27 #[.int .i64 0, .int .i64 0, .int .i64 0, .bool false, .slice none 0 0] := by rw [hW1]; exact Var.new _ _ _
  have b1 : Below w.heap.size w W1 := by rw [hW1]; exact below_new _
  have z1 : W1.heap.size = w.heap.size + 1 := by rw [hW1]; simp
  rw [← hW1]
  clear hW1
  refine (new_any s W1).mono ?_
  rintro e W2 ⟨rfl, r2, k2⟩
  obtain ⟨g, hg⟩ : ∃ g, g = W1.heap.size := ⟨_, rfl⟩
  rw [← hg] at r2 k2 z1 ⊢
  have v2 := v1.below k2 (by omega)
  have b2 := b1.trans (k2.mono (by omega))
  have hg2 := Var.lt r2
  have HZ := Lib.hid z1
  have hgw : w.heap.size + 1 ≤ g := by omega
  clear hg v1 b1 k2 z1
  go_wp2_with fail
  refine (take_any g s 0 false y p bad W2 HT.out r2 hx (by omega)).mono ?_
  rintro e W3 ⟨A, c, rfl, r3, o3, k3⟩
  have v3 := v2.kept k3 (by simp; omega)
  have f3 : EFin w W3 A y.rs.length c y.rs := ⟨own_down o3 (by omega), b2.trans (k3.below (by omega) (by simp; omega))⟩
  clear v2 b2 r2 o3 k3
  clear HT
  go_wp2_with fail
  obtain ⟨x, hxx⟩ : ∃ x, x = W3.heap.size := ⟨_, rfl⟩
  obtain ⟨n, hn⟩ : ∃ n, n = y.rs.length := ⟨_, rfl⟩
  obtain ⟨W4, hW4⟩ : ∃ W4, W4 = W3.alloc (.cells #[.int .i64 y.pid, .int .i64 y.ep, .int .i64 y.sq, .bool y.tx, .slice A y.rs.length c] 27) := ⟨_, rfl⟩
  have f4 : EFin w W4 A y.rs.length c y.rs := by rw [hW4]; exact f3.next (below_new _)
  have v4 : Var W4 w.heap.size 27 #[.int .i64 0, .int .i64 0, .int .i64 0, .bool false, .slice none 0 0] := by rw [hW4]; exact v3.alloc _
  have t4 : Var W4 x 27 #[.int .i64 y.pid, .int .i64 y.ep, .int .i64 y.sq, .bool y.tx, .slice A y.rs.length c] := by rw [hW4, hxx]; exact Var.new _ _ _
  have r4 : Rd 78 W4 g s p bad := by rw [hW4]; exact Var.alloc r3 _
  rw [← hW4, ← hxx]
  rw [← hn] at f4 t4 ⊢
  clear f3 v3 r3 hW4 hxx
  have HN := Lib.hid hn
  clear hn
  refine (end_all g s p bad er W4 HE.out r4).mono ?_
  rintro e W5 ⟨rfl, nq, rfl⟩
  obtain ⟨d0, d1, d2, d3, d4, f1⟩ := v4.cells5
  obtain ⟨e0, e1, e2, e3, e4, f2⟩ := t4.cells5
  have l1 := v4.lt
  have l2 := t4.lt
  have f5 := f4.next (w' := W4.drewN nq) ((Below.refl _ _).drewN' nq)
  rcases HO.out with ⟨_, _, rfl, rfl⟩ | ⟨_, rfl, rfl⟩
  · obtain ⟨pid, ep, sq, tx, rs⟩ := b
    have y0 : ((0 : Int) != 0) = false := by decide
    have hfin := f5.five (.int .i64 pid) (.int .i64 ep) (.int .i64 sq) (.bool tx) (.slice A n c)
    simp only at e0 e1 e2 e3 e4
    clear HO HE f4 f5 r4
    go_wp2
    refine bodyPost_ret (v := .tuple #[.agg #[.int .i64 pid, .int .i64 ep, .int .i64 sq, .bool tx, .slice A n c], .int .i64 0]) (by simp [results, Tryz.results59, go_sem, d0, d1, d2, d3, d4]) rfl ?_
    have hnn := HN.out
    exact ⟨A, c, by simp only; rw [← hnn], by simp only; rw [← hnn]; exact hfin.out⟩
  · have y0 : ((70 : Int) != 0) = true := by decide
    have hfin := f5.zero.five (.int .i64 0) (.int .i64 0) (.int .i64 0) (.bool false) (.slice none 0 0)
    clear HO HE f4 f5 r4
    go_wp2
    refine bodyPost_ret (v := .tuple #[.agg #[.int .i64 0, .int .i64 0, .int .i64 0, .bool false, .slice none 0 0], .int .i64 70]) (by simp [results, Tryz.results59, go_sem, d0, d1, d2, d3, d4]) rfl ?_
    exact ⟨none, 0, rfl, hfin.out⟩
end Go.Proofs.YtfcifblbapadpaaGreatDoor
