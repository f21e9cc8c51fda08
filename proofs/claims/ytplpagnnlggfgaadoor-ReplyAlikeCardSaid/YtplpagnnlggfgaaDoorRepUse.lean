/-
  What serves here of memory: rows of the call's own carried over stores and calls; 'Tn S w w'': all but the blocks of S and rows of bytes are as they were; 'Kq g w w'': block g and rows of bytes are. No conditions.
-/
import Derived.Test.YtplpagnnlggfgaaDoorRepG7
import Derived.Test.YtplpagnnlggfgaaDoorFldRead
namespace Go.Proofs.YtplpagnnlggfgaaDoor
open Go.RowKit

/-- Block k holds cells of the type T. -/
def Typed (w : World) (k T : Nat) : Prop := ∃ cs x, w.heap[k]? = some (.cells cs T x)
theorem Var.typed {w : World} {g T : Nat} {cs : Array Value} (h : Var w g T cs) : Typed w g T := ⟨_, _, h⟩
theorem Typed.one {w : World} {k T T' : Nat} (h : Typed w k T) (h' : Typed w k T') : T = T' := by
  obtain ⟨_, _, h⟩ := h
  obtain ⟨_, _, h'⟩ := h'
  rw [h] at h'
  injection h' with h'
  injection h' with _ h2 _
/-- All but the blocks of S and rows of bytes are as they were. -/
structure Tn (S : List Nat) (w w' : World) : Prop where
  os : w'.os = w.os
  tape : w'.tape = w.tape
  output : w'.output = w.output
  size : w.heap.size ≤ w'.heap.size
  block : ∀ k, k < w.heap.size → k ∉ S → ¬ (Typed w k 5 ∧ ∃ s ∈ S, s < k) → w'.heap[k]? = w.heap[k]?
section
variable {S S' : List Nat} {w w' a b c : World}
theorem Tn.refl (S : List Nat) (w : World) : Tn S w w := ⟨rfl, rfl, rfl, Nat.le_refl _, fun _ _ _ _ => rfl⟩
theorem Tn.trans (h : Tn S a b) (k : Tn S b c) : Tn S a c :=
  ⟨k.os.trans h.os, k.tape.trans h.tape, k.output.trans h.output, Nat.le_trans h.size k.size, fun i hi hs ht => by
    have h1 := h.block i hi hs ht
    rw [k.block i (Nat.lt_of_lt_of_le hi h.size) hs (fun ⟨⟨cs, x, hc⟩, hr⟩ => ht ⟨⟨cs, x, h1.symm.trans hc⟩, hr⟩), h1]⟩
theorem Tn.mono (h : Tn S w w') (hs : ∀ x ∈ S, x ∈ S') : Tn S' w w' :=
  ⟨h.os, h.tape, h.output, h.size, fun i hi hn ht => h.block i hi (fun hm => hn (hs i hm)) (fun ⟨h1, s, hm, h2⟩ => ht ⟨h1, s, hs s hm, h2⟩)⟩
theorem Tn.of_kept (h : Kept S w w') : Tn S w w' := ⟨h.os, h.tape, h.output, h.size, fun i hi hn _ => h.block i hi hn⟩
theorem Tn.of_below (h : Below w.heap.size w w') : Tn S w w' := Tn.of_kept (Kept.of_below h)
theorem Tn.alloc (h : Tn S a w) (o : Obj) : Tn S a (w.alloc o) := h.trans (Tn.of_below (below_new _))
theorem Tn.setCell (h : Tn S a w) {p : Addr} (hp : p.block ∈ S ∨ a.heap.size ≤ p.block) (u : Value) : Tn S a (w.setCell p u) :=
  ⟨h.os, h.tape, h.output, by simp [World.setCell]; exact h.size, fun i hi hn ht => by
    have hne : i ≠ p.block := fun he => by rcases hp with h1 | h1; exact hn (he ▸ h1); omega
    rw [Below.heap_setCell _ _ _ _ hne, h.block i hi hn ht]⟩
theorem Tn.drewN (h : Tn S a w) (n : Nat) : Tn S a (w.drewN n) := ⟨h.os, h.tape, h.output, h.size, h.block⟩
theorem Tn.drew (h : Tn S a w) : Tn S a w.drew := ⟨h.os, h.tape, h.output, h.size, h.block⟩
/-- What lies below all of S is as it was. -/
theorem Tn.below (h : Tn S w w') {B : Nat} (hB : B ≤ w.heap.size) (hs : ∀ x ∈ S, B ≤ x) : Below B w w' :=
  ⟨h.os, h.tape, h.output, h.size, fun i hi => h.block i (by omega) (fun hm => by have := hs i hm; omega) (fun ⟨_, s, hm, hl⟩ => by have := hs s hm; omega)⟩
end
section
variable {S : List Nat} {w w' : World} {g T : Nat} {cs : Array Value}
theorem Var.tn (h : Var w g T cs) (k : Tn S w w') (hn : g ∉ S) (hT : T ≠ 5) : Var w' g T cs := (k.block g h.lt hn (fun ⟨ht, _⟩ => hT (h.typed.one ht))).trans h
end
/-- Block g and rows of bytes behind it are as they were. -/
structure Kq (g : Nat) (w w' : World) : Prop where
  size : w.heap.size ≤ w'.heap.size
  block : ∀ k, k < w.heap.size → (k = g ∨ (g < k ∧ Typed w k 5)) → w'.heap[k]? = w.heap[k]?
section
variable {g : Nat} {w a b c : World}
theorem Kq.refl (g : Nat) (w : World) : Kq g w w := ⟨Nat.le_refl _, fun _ _ _ => rfl⟩
theorem Kq.trans (h : Kq g a b) (k : Kq g b c) : Kq g a c :=
  ⟨Nat.le_trans h.size k.size, fun i hi hs => by
    have h1 := h.block i hi hs
    rw [k.block i (Nat.lt_of_lt_of_le hi h.size) (by rcases hs with hs | ⟨h2, cs, x, hc⟩; exact .inl hs; exact .inr ⟨h2, cs, x, h1.trans hc⟩), h1]⟩
theorem Kq.of_below (h : Below a.heap.size a b) : Kq g a b := ⟨h.size, fun i hi _ => h.block i hi⟩
theorem Kq.setCell {W T : Nat} {cs : Array Value} (h : Var w W T cs) (hT : T ≠ 5) (hg : g ≠ W) (i : Nat) (u : Value) : Kq g w (w.setCell ⟨W, i, none⟩ u) :=
  ⟨by simp [World.setCell], fun k _ hs => Below.heap_setCell _ _ _ _ (fun he => by
    rcases hs with hs | ⟨_, ht⟩
    · exact hg (hs.symm.trans he)
    · exact hT (h.typed.one (by rw [show k = W from he] at ht; exact ht)))⟩
end
/-! ### rows of the call's own -/
section
variable {w w' : World} {base e n size : Nat} {v : Value} {xs : List Value} {S : List Nat}
theorem own_set (h : w.ownsRow base e size v n xs) {p : Addr} (hp : p.block < base) (u : Value) : (w.setCell p u).ownsRow base e size v n xs := by
  refine ⟨h.1, ?_⟩
  rcases h.2 with h0 | ⟨b, cap, cur, hv, hb, hq, hr⟩
  · exact .inl h0
  · exact .inr ⟨b, cap, cur, hv, hb, (Below.heap_setCell _ _ _ _ (by omega)).trans hq, hr⟩
theorem own_tn (h : w.ownsRow base e size v n xs) (k : Tn S w w') (hS : ∀ x ∈ S, x < base) (he : e ≠ 5) : w'.ownsRow base e size v n xs := by
  refine ⟨h.1, ?_⟩
  rcases h.2 with h0 | ⟨b, cap, cur, hv, hb, hq, hr⟩
  · exact .inl h0
  · exact .inr ⟨b, cap, cur, hv, hb, (k.block b (heap_lt hq) (fun hm => by have := hS b hm; omega) (fun ⟨ht, _⟩ => he (Typed.one ⟨_, _, hq⟩ ht))).trans hq, hr⟩
/-- A row of bytes of one's own lies behind block g. -/
theorem own_kq {g : Nat} (h : w.ownsRow (g + 1) 5 size v n xs) (k : Kq g w w') : w'.ownsRow (g + 1) 5 size v n xs := by
  refine ⟨h.1, ?_⟩
  rcases h.2 with h0 | ⟨b, cap, cur, hv, hb, hq, hr⟩
  · exact .inl h0
  · exact .inr ⟨b, cap, cur, hv, hb, (k.block b (heap_lt hq) (.inr ⟨by omega, _, _, hq⟩)).trans hq, hr⟩
/-- The row of bytes grown: a turn in place, or a new block. -/
theorem tn_grown {g : Nat} {v : Value} {xs : List Value} (h : w.ownsRow (g + 1) 5 1 v n xs) (hg : w.grownBy w' v.ownBlock) : Tn [g] w w' :=
  ⟨hg.os, hg.tape, hg.output, hg.size, fun k hk hn ht => hg.block k hk (fun he => by
    rcases h.2 with ⟨rfl, _⟩ | ⟨b, cap, cur, rfl, hb, hq, _⟩
    · simp [Value.ownBlock] at he
    · simp only [Value.ownBlock, Option.some.injEq] at he
      subst he
      exact ht ⟨⟨_, _, hq⟩, g, by simp, by omega⟩)⟩
theorem own_var {g T : Nat} {cs : Array Value} (h : w.ownsRow base e size v n xs) (hv : Var w g T cs) (hT : T ≠ e) (hg : ∀ k, k ≠ g → w'.heap[k]? = w.heap[k]?) : w'.ownsRow base e size v n xs := by
  refine ⟨h.1, ?_⟩
  rcases h.2 with h0 | ⟨b, cap, cur, he, hb, hq, hr⟩
  · exact .inl h0
  · exact .inr ⟨b, cap, cur, he, hb, (hg b (fun hbg => hT (Typed.one (by rw [hbg] at hq; exact hv.typed) ⟨_, _, by rw [← hbg]; exact hq⟩))).trans hq, hr⟩
end
end Go.Proofs.YtplpagnnlggfgaaDoor
