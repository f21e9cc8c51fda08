/-
  A pass and a walk in memory; the contracts of stop. Conditions: those that each theorem names.
-/
import Derived.Test.YtplpagnnlggfgaaDoorRepPass
import Derived.Test.YtplpagnnlggfgaaDoorRepErr
import Derived.Test.YtplpagnnlggfgaaDoorRepMem
namespace Go.Proofs.YtplpagnnlggfgaaDoor
open Go.RowKit

/-- A pass in memory: block g and rows of bytes behind it; its methods. -/
structure PIn (P : Pass) where
  g : Nat
  T : TypeId
  v : Value
  nf : FuncId
  tf : FuncId
  rep : World → P.St → Prop
  lt : ∀ {w s}, rep w s → g < w.heap.size
  kq : ∀ {w w' s}, rep w s → Kq g w w' → rep w' s
  mnum : ∀ w, (Go.method 282 T v "roving/reply.number").run Tryd.prog w = .ok (nf, v) w
  mtxt : ∀ w, (Go.method 282 T v "roving/reply.text").run Tryd.prog w = .ok (tf, v) w
  enum : ∀ args W, (callFunc nf args).run Tryd.prog W = .ok (.enter nf args) W
  etxt : ∀ args W, (callFunc tf args).run Tryd.prog W = .ok (.enter tf args) W
  num : ∀ (s : P.St) (n : Int) (w : World), rep w s → P.sz s ≤ 700000 → -9223372036854775808 ≤ n → n ≤ 9223372036854775807 → Calls Tryd.prog nf #[v, .int .i64 n] w fun e w' => e = .returned (.tuple #[.int .i64 (P.num s n).1, .bool (P.num s n).2.1]) ∧ rep w' (P.num s n).2.2 ∧ Tn [g] w w'
  txt : ∀ (s : P.St) (t : ByteArray) (w : World), rep w s → P.sz s ≤ 700000 → t.size ≤ 9223372036854775807 → Calls Tryd.prog tf #[v, .string t] w fun e w' => e = .returned (.tuple #[.string (P.txt s t).1, .bool (P.txt s t).2.1]) ∧ rep w' (P.txt s t).2.2 ∧ Tn [g] w w'
  num64 : ∀ (s : P.St) (n : Int), -9223372036854775808 ≤ n → n ≤ 9223372036854775807 → -9223372036854775808 ≤ (P.num s n).1 ∧ (P.num s n).1 ≤ 9223372036854775807
  txt64 : ∀ (s : P.St) (t : ByteArray), t.size ≤ 9223372036854775807 → (P.txt s t).1.size ≤ 9223372036854775807

theorem set_push_lt {A : Array Value} {i : Nat} (h : i < A.size) (u x : Value) : (A.push x).setIfInBounds i u = (A.setIfInBounds i u).push x := by
  refine Array.ext' ?_
  rw [Array.toList_setIfInBounds, Array.toList_push, Array.toList_push, Array.toList_setIfInBounds, List.set_append_left i u (by simpa using h)]
theorem set_push_size (A : Array Value) (u x : Value) : (A.push x).setIfInBounds A.size u = A.push u := by
  refine Array.ext' ?_
  rw [Array.toList_setIfInBounds, Array.toList_push, Array.toList_push, List.set_append_right A.size u (by simp)]
  simp
/-- A walk in block W: its fourteen cells, and the error behind them. -/
structure Wk {P : Pass} (M : PIn P) (w : World) (W : Nat) (wr : Int) (m : Nat) (A : Array Value) (s : Ws P) : Prop where
  var : ∃ er, Var w W 56 (A.push er) ∧ ErrAt w W wr m s.bad er
  rep : M.rep w s.st
  lt : M.g < W
  a0 : A[0]? = some (.iface M.T M.v)
  a1 : A[1]? = some (.int .i64 wr)
  asz : A.size = 14
section
variable {P : Pass} {M : PIn P} {w w' : World} {W : Nat} {wr : Int} {m : Nat} {A : Array Value} {s : Ws P}
theorem ErrAt.turn {n : Int} {bad : Bool} {er : Value} {lo : Nat} (k : ∀ h T cs, lo < h → T ≠ 5 → Var w h T cs → Var w' h T cs) (h : ErrAt w lo n m bad er) : ErrAt w' lo n m bad er := by
  rcases h with h | ⟨h1, h2⟩
  · exact .inl h
  · exact .inr ⟨h1, Chain.turn k h2⟩
theorem Wk.lt' (h : Wk M w W wr m A s) : W < w.heap.size := by obtain ⟨er, hv, _⟩ := h.var; exact hv.lt
theorem Wk.below (h : Wk M w W wr m A s) (hb : Below w.heap.size w w') : Wk M w' W wr m A s := by
  obtain ⟨er, hv, he⟩ := h.var
  exact ⟨⟨er, hv.below hb hv.lt, he.turn fun _ _ _ _ _ hc => hc.below hb hc.lt⟩, M.kq h.rep (Kq.of_below hb), h.lt, h.a0, h.a1, h.asz⟩
/-- What the pass did. -/
theorem Wk.pass (h : Wk M w W wr m A s) {st : P.St} (hr : M.rep w' st) (hk : Tn [M.g] w w') : Wk M w' W wr m A ⟨st, s.bad⟩ := by
  obtain ⟨er, hv, he⟩ := h.var
  have hl := h.lt
  exact ⟨⟨er, hv.tn hk (by simp; omega) (by decide), he.turn fun i _ _ hi hT hc => hc.tn hk (by simp; omega) hT⟩, hr, h.lt, h.a0, h.a1, h.asz⟩
/-- A cell of the walk stored into. -/
theorem Wk.put (h : Wk M w W wr m A s) (i : Nat) (hi : 2 ≤ i) (hi2 : i < 14) (u : Value) : Wk M (w.setCell ⟨W, i, none⟩ u) W wr m (A.setIfInBounds i u) s := by
  obtain ⟨er, hv, he⟩ := h.var
  have hl := h.lt
  have hz := h.asz
  refine ⟨⟨er, ?_, he.turn fun j _ _ hj _ hc => hc.other i u (by omega)⟩, M.kq h.rep (Kq.setCell hv (by decide) (by omega) i u), h.lt, ?_, ?_, by simpa using hz⟩
  · have := hv.set i u
    rwa [set_push_lt (by omega)] at this
  · rw [Array.getElem?_setIfInBounds_ne (by omega)]; exact h.a0
  · rw [Array.getElem?_setIfInBounds_ne (by omega)]; exact h.a1
/-- The error stored. -/
theorem Wk.stop (h : Wk M w W wr m A s) {er : Value} {bad : Bool} {m' : Nat} (he : ErrAt w W wr m' bad er) : Wk M (w.setCell ⟨W, 14, none⟩ er) W wr m' A ⟨s.st, bad⟩ := by
  obtain ⟨er0, hv, _⟩ := h.var
  have hl := h.lt
  have hz := h.asz
  refine ⟨⟨er, ?_, he.turn fun j _ _ hj _ hc => hc.other 14 er (by omega)⟩, M.kq h.rep (Kq.setCell hv (by decide) (by omega) 14 er), h.lt, h.a0, h.a1, hz⟩
  have := hv.set 14 er
  have h14 := set_push_size A er er0
  rw [hz] at h14
  rwa [h14] at this
/-- .. and a fault made behind it. -/
theorem Wk.stop2 (h : Wk M w W wr m A s) (o : Obj) {er : Value} {bad : Bool} {m' : Nat} (he : ErrAt ((w.setCell ⟨W, 14, none⟩ er).alloc o) W wr m' bad er) : Wk M ((w.setCell ⟨W, 14, none⟩ er).alloc o) W wr m' A ⟨s.st, bad⟩ := by
  obtain ⟨er0, hv, _⟩ := h.var
  have hl := h.lt
  have hz := h.asz
  refine ⟨⟨er, ?_, he⟩, M.kq (M.kq h.rep (Kq.setCell hv (by decide) (by omega) 14 er)) (Kq.of_below (below_new _)), h.lt, h.a0, h.a1, hz⟩
  have := (hv.set 14 er).alloc o
  have h14 := set_push_size A er er0
  rw [hz] at h14
  rwa [h14] at this
theorem Wk.cell (h : Wk M w W wr m A s) (i : Nat) {u : Value} (hu : A[i]? = some u) : w.cell? ⟨W, i, none⟩ = some u := by
  obtain ⟨er0, hv, _⟩ := h.var
  refine hv.cell i ?_
  have := (Array.getElem?_eq_some_iff.1 hu).1
  rw [Array.getElem?_push_lt this]
  have h2 := (Array.getElem?_eq_some_iff.1 hu).2
  rw [h2]
theorem Wk.free (h : Wk M w W wr m A s) (i : Nat) : w.frozen? ⟨W, i, none⟩ = false := by
  obtain ⟨er0, hv, _⟩ := h.var
  exact hv.free i
theorem Wk.errc (h : Wk M w W wr m A s) : ∃ er, w.cell? ⟨W, 14, none⟩ = some er ∧ ErrAt w W wr m s.bad er := by
  obtain ⟨er, hv, he⟩ := h.var
  exact ⟨er, hv.cell 14 (by rw [← h.asz]; exact Array.getElem?_push_size), he⟩
theorem Wk.up (h : Wk M w W wr m A s) : Wk M w W wr (m + 1) A s := by
  obtain ⟨er, hv, he⟩ := h.var
  refine ⟨⟨er, hv, ?_⟩, h.rep, h.lt, h.a0, h.a1, h.asz⟩
  rcases he with he | ⟨h1, h2⟩
  · exact .inl he
  · exact .inr ⟨h1, h2.more⟩
end
/-- What a walk's method hands back that returns nothing. -/
def KRes {P : Pass} (M : PIn P) (W : Nat) (wr : Int) (m : Nat) (A : Array Value) (s : Ws P) (w : World) (e : Ending) (w' : World) : Prop := e = .returned (.tuple #[]) ∧ Wk M w' W wr m A s ∧ Tn [M.g, W] w w'

set_option maxRecDepth 100000 in
set_option maxHeartbeats 1000000 in
theorem stop_any {P : Pass} (M : PIn P) (W : Nat) (wr : Int) (A : Array Value) (s : Ws P) (nm : ByteArray) (w : World) (h : Wk M w W wr 1 A s) :
    Calls Tryd.prog 20 #[.pointer (some ⟨W, 0, none⟩), .string nm] w (KRes M W wr 1 A ⟨s.st, true⟩ w) := by
  obtain ⟨er, hc, he⟩ := h.errc
  have c1 := h.cell 1 h.a1
  have f14 := h.free 14
  have hl := h.lt'
  rcases he with ⟨hb, rfl⟩ | ⟨hb, hch⟩
  · have hv := Var.new (w.setCell ⟨W, 14, none⟩ (fltV w.heap.size)) #[.string nm, .iface 23 (.int .i64 wr)] 80
    have hz : (w.setCell ⟨W, 14, none⟩ (fltV w.heap.size)).heap.size = w.heap.size := by simp [World.setCell]
    rw [hz] at hv
    have hk := h.stop2 (m' := 1) (bad := true) (er := fltV w.heap.size) (.cells #[.string nm, .iface 23 (.int .i64 wr)] 80) (.inr ⟨rfl, _, nm, _, rfl, hl, hv, .inl rfl⟩)
    have hK : KRes M W wr 1 A ⟨s.st, true⟩ w (.returned (.tuple #[])) ((w.setCell ⟨W, 14, none⟩ (fltV w.heap.size)).alloc (.cells #[.string nm, .iface 23 (.int .i64 wr)] 80)) := ⟨rfl, hk, ((Tn.refl _ _).setCell (.inl (by simp)) _).alloc _⟩
    have HK := Lib.hid hK
    clear hz
    clear hk hK hv h hb
    go_enter Tryd.func20, Tryd.ntmps20
    go_wp2
    refine bodyPost_end (results_none rfl _ _ _) rfl ?_
    exact HK.out
  · have hs : s = ⟨s.st, true⟩ := by cases s; simp only at hb; rw [hb]
    have hK : KRes M W wr 1 A ⟨s.st, true⟩ w (.returned (.tuple #[])) w := ⟨rfl, hs ▸ h, Tn.refl _ _⟩
    have HK := Lib.hid hK
    obtain ⟨i, fld, u, rfl, _, _, _⟩ := hch
    clear hK h hb hs
    go_enter Tryd.func20, Tryd.ntmps20
    go_wp2
    refine bodyPost_end (results_none rfl _ _ _) rfl ?_
    exact HK.out
end Go.Proofs.YtplpagnnlggfgaaDoor
