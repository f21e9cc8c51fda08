/-
  The contract of record's Read: what it returns and what it does to memory. Conditions: those that the theorem names.
-/
import Derived.Test.YtchpemgamgcbkaaGreatRecTake
namespace Go.Proofs.YtchpemgamgcbkaaGreat
open Go.RowKit

theorem own_seen {w : World} {base n c s : Nat} {e : TypeId} {A : Option Addr} {xs : List Value} (h : w.ownsRow base e s (.slice A n c) n xs) : Seen w w.heap.size A xs := by
  obtain ⟨A', c', he, hs, _⟩ := own_formN h
  injection he with h1 _ _
  rw [h1]
  exact hs

/-- What Read hands back. -/
def ReadRes (w : World) (b : Bt) (er : Int) (e : Ending) (w' : World) : Prop :=
  ∃ A c, e = .returned (.tuple #[.agg #[.int .i64 b.pid, .int .i64 b.ep, .int .i64 b.sq, .bool b.tx, .slice A b.rs.length c], .int .i64 er]) ∧ w'.ownsRow w.heap.size 56 2 (.slice A b.rs.length c) b.rs.length (rcells b.rs) ∧ Below w.heap.size w w'
/-- The records and what was kept: under stores to the result's variable. -/
def EFin (w wr : World) (A : Option Addr) (k c : Nat) (rs : List Rc) : Prop := wr.ownsRow (w.heap.size + 1) 56 2 (.slice A k c) k (rcells rs) ∧ Below w.heap.size w wr
section
variable {w wr w' : World} {A : Option Addr} {k c : Nat} {rs : List Rc}
theorem EFin.set (h : EFin w wr A k c rs) (j : Nat) (u : Value) : EFin w (wr.setCell ⟨w.heap.size, j, none⟩ u) A k c rs := ⟨own_set h.1 (Nat.lt_succ_self w.heap.size) _, h.2.setCell (Nat.le_refl _) _⟩
theorem EFin.next (h : EFin w wr A k c rs) (hb : Below wr.heap.size wr w') : EFin w w' A k c rs := ⟨own_next h.1 hb, h.2.trans (hb.mono h.2.size)⟩
theorem EFin.zero (h : EFin w wr A k c rs) : EFin w wr none 0 0 [] := ⟨World.ownsRow_nil _ _ _ _, h.2⟩
theorem EFin.five (h : EFin w wr A k c rs) (u0 u1 u2 u3 u4 : Value) : EFin w (((((wr.setCell ⟨w.heap.size, 0, none⟩ u0).setCell ⟨w.heap.size, 1, none⟩ u1).setCell ⟨w.heap.size, 2, none⟩ u2).setCell ⟨w.heap.size, 3, none⟩ u3).setCell ⟨w.heap.size, 4, none⟩ u4) A k c rs :=
  ((((h.set 0 u0).set 1 u1).set 2 u2).set 3 u3).set 4 u4
theorem EFin.out (h : EFin w wr A k c rs) : wr.ownsRow w.heap.size 56 2 (.slice A k c) k (rcells rs) ∧ Below w.heap.size w wr := ⟨own_down h.1 (by omega), h.2⟩
end
theorem endIs_of_read {s : ByteArray} {b x : Bt} {er : Int} {p : Nat} {bad : Bool} (h : (bad = false ∧ p = s.size ∧ er = 0 ∧ b = x) ∨ ((bad = true ∨ p ≠ s.size) ∧ er = 70 ∧ b = noBt)) : EndIs s p bad er := by
  rcases h with ⟨h1, h2, h3, _⟩ | ⟨h1, h2, _⟩
  · exact .inl ⟨h1, h2, h3⟩
  · exact .inr ⟨h1, h2⟩

end Go.Proofs.YtchpemgamgcbkaaGreat
