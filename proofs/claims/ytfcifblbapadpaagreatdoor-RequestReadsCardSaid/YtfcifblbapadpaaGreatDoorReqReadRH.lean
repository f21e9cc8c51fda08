/-
  The contract of the document's own Read of requests. Conditions: those that the theorem names.
-/
import Derived.Test.YtfcifblbapadpaaGreatDoorReqMayR
import Derived.Test.YtfcifblbapadpaaGreatDoorReqGet
import Derived.Test.YtfcifblbapadpaaGreatDoorRecReadR
namespace Go.Proofs.YtfcifblbapadpaaGreatDoor
open Go.RowKit

/-- The document's reader in block g, what is read in block q, the result's variable in block r. -/
structure Rr (w wr : World) (g q : Nat) (s : ByteArray) (p : Nat) (bad : Bool) (x : Rq) (A : Option Addr) (n c : Nat) : Prop where
  rd : Rd 47 wr g s p bad
  v : Var wr q 29 (qvals x A n c)
  res : Var wr w.heap.size 29 #[.int .i8 0, .int .i64 0, .int .i64 0, .int .i64 0, .int .i64 0, .int .i64 0, .int .i64 0, .int .i64 0, .int .i64 0, .bool false, .int .i64 0, .int .i64 0, .int .i64 0, .bool false, .slice none 0 0]
  own : QOwn (q + 1) wr x A n c
  below : Below w.heap.size w wr
  hg : w.heap.size < g
  hq : g < q
section
variable {w wr w1 : World} {g q : Nat} {s : ByteArray} {p p' : Nat} {bad bad' : Bool} {x x' : Rq} {A A' : Option Addr} {n c n' c' : Nat}
theorem Rr.read (h : Rr w wr g q s p bad x A n c) (hr : Rd 47 w1 g s p' bad') (hk : Kept [g] wr w1) : Rr w w1 g q s p' bad' x A n c :=
  ⟨hr, h.v.kept hk (by have := h.hq; simp; omega), h.res.kept hk (by have := h.hg; simp; omega), h.own.kept hk (by intro y hy; simp at hy; have := h.hq; omega), h.below.trans (hk.below h.below.size (by intro y hy; simp at hy; have := h.hg; omega)), h.hg, h.hq⟩
theorem Rr.put (h : Rr w wr g q s p bad x A n c) {i : Nat} {u : Value} (hs : (qvals x A n c).setIfInBounds i u = qvals x' A n c) (hb : x'.b.rs = x.b.rs) : Rr w (wr.setCell ⟨q, i, none⟩ u) g q s p bad x' A n c := by
  have h1 := h.v.set i u
  rw [hs] at h1
  have e1 := h.hg
  have e2 := h.hq
  exact ⟨Var.other h.rd i u (by omega), h1, h.res.other i u (by omega), (h.own.set (p := ⟨q, i, none⟩) (Nat.lt_succ_self q) u).alike hb, h.below.setCell (show w.heap.size ≤ q by omega) u, e1, e2⟩
theorem Rr.next (h : Rr w wr g q s p bad x A n c) (hb : Below wr.heap.size wr w1) : Rr w w1 g q s p bad x A n c :=
  ⟨Var.below h.rd hb (Var.lt h.rd), h.v.below hb h.v.lt, h.res.below hb h.res.lt, h.own.next hb, h.below.trans (hb.mono h.below.size), h.hg, h.hq⟩
end

end Go.Proofs.YtfcifblbapadpaaGreatDoor
