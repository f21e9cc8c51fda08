/-
  Replies as cells and in memory. No conditions.
-/
import Derived.Test.YtplpagnnlggfgaaDoorRepPlain
import Derived.Test.YtplpagnnlggfgaaDoorRepUse
namespace Go.Proofs.YtplpagnnlggfgaaDoor
open Go.RowKit

def rpvals (x : Rp) (A : Option Addr) (n c : Nat) : Array Value := #[.int .i8 x.kind, .int .i64 x.e, .int .i64 x.pid, .int .i64 x.ep, .int .i64 x.off, .slice A n c]
theorem rpvals_one (x : Rp) (A : Option Addr) (n c : Nat) : (rpvals x A n c).all (·.oneCell') = true := by simp [rpvals, Value.oneCell']
/-- A reply in memory: what lies behind its cells, in blocks below B. -/
structure RIn (w : World) (B : Nat) (x : Rp) (A : Option Addr) (n c : Nat) : Prop where
  len : x.rows.length = n
  seen : Seen w B A (rwcells x.rows)
  cap : n ≤ c
  max : n ≤ 9223372036854775807
  sizes : ∀ y ∈ x.rows, y.k.size ≤ 9223372036854775807 ∧ y.v.size ≤ 9223372036854775807
/-- A reply in memory of the call's own. -/
structure ROwn (base : Nat) (w : World) (x : Rp) (A : Option Addr) (n c : Nat) : Prop where
  rows : w.ownsRow base 37 5 (.slice A n c) n (rwcells x.rows)
  len : x.rows.length = n
  max : n ≤ 1000
  sizes : ∀ y ∈ x.rows, y.k.size ≤ 9223372036854775807 ∧ y.v.size ≤ 9223372036854775807
section
variable {w w' : World} {B B' base g : Nat} {S : List Nat} {x y : Rp} {A : Option Addr} {n c : Nat}
theorem RIn.below (h : RIn w B x A n c) (hb : Below B w w') : RIn w' B x A n c := ⟨h.len, h.seen.below hb, h.cap, h.max, h.sizes⟩
theorem RIn.up (h : RIn w B x A n c) (hb : B ≤ B') : RIn w B' x A n c := ⟨h.len, h.seen.up hb, h.cap, h.max, h.sizes⟩
theorem RIn.alike (h : RIn w B x A n c) (hb : y.rows = x.rows) : RIn w B y A n c := ⟨by rw [hb]; exact h.len, by rw [hb]; exact h.seen, h.cap, h.max, by rw [hb]; exact h.sizes⟩
theorem ROwn.next (h : ROwn base w x A n c) (hb : Below w.heap.size w w') : ROwn base w' x A n c := ⟨own_next h.rows hb, h.len, h.max, h.sizes⟩
theorem ROwn.down (h : ROwn base w x A n c) {B : Nat} (hb : B ≤ base) : ROwn B w x A n c := ⟨own_down h.rows hb, h.len, h.max, h.sizes⟩
theorem ROwn.rin (h : ROwn base w x A n c) : RIn w w.heap.size x A n c := by
  obtain ⟨A1, c1, e1, s1, l1⟩ := own_formN h.rows
  injection e1 with a1 _ a3
  subst a1 a3
  have h4 := h.max
  exact ⟨h.len, s1, l1, by omega, h.sizes⟩
end
theorem bare_rin (w : World) (B : Nat) {x : Rp} (hb : x.rows = []) : RIn w B x none 0 0 := ⟨by rw [hb]; rfl, by rw [hb]; exact Seen.nil _ _ _, Nat.le_refl _, by omega, by rw [hb]; intro y hy; cases hy⟩
theorem bare_rown (w : World) (B : Nat) {x : Rp} (hb : x.rows = []) : ROwn B w x none 0 0 := ⟨by rw [hb]; exact World.ownsRow_nil _ _ _ _, by rw [hb]; rfl, by omega, by rw [hb]; intro y hy; cases hy⟩
theorem iff_of' (p : Prop) : ∃ b : Bool, b = true ↔ p := by
  by_cases h : p
  · exact ⟨true, by simp [h]⟩
  · exact ⟨false, by simp [h]⟩
/-- The cells of a variable of six. -/
theorem Var.cells6 {w : World} {g T : Nat} {a0 a1 a2 a3 a4 a5 : Value} (h : Var w g T #[a0, a1, a2, a3, a4, a5]) :
    w.cell? ⟨g, 0, none⟩ = some a0 ∧ w.cell? ⟨g, 1, none⟩ = some a1 ∧ w.cell? ⟨g, 2, none⟩ = some a2 ∧ w.cell? ⟨g, 3, none⟩ = some a3 ∧ w.cell? ⟨g, 4, none⟩ = some a4 ∧ w.cell? ⟨g, 5, none⟩ = some a5 :=
  ⟨h.cell 0 rfl, h.cell 1 rfl, h.cell 2 rfl, h.cell 3 rfl, h.cell 4 rfl, h.cell 5 rfl⟩
theorem two_new (w : World) (x y : Array Value) (T : TypeId) : Var ((w.alloc (.cells x T)).alloc (.cells y T)) w.heap.size T x ∧ Var ((w.alloc (.cells x T)).alloc (.cells y T)) (w.heap.size + 1) T y ∧ Below w.heap.size w ((w.alloc (.cells x T)).alloc (.cells y T)) :=
  ⟨(Var.new w x T).alloc _, (by have h := Var.new (w.alloc (.cells x T)) y T; rw [World.size_alloc] at h; exact h), ((Below.refl _ _).alloc (Nat.le_refl _) _).alloc (by simp) _⟩
end Go.Proofs.YtplpagnnlggfgaaDoor
