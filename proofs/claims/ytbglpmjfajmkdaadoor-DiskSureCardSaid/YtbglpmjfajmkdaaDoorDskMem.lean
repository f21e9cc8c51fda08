/-
  What the walks over disks say of memory: slices of files as lists ('Seen' of 'fcells'), 'Kept S w w'' (all but the blocks of S is as it was), a variable, the one package variable of errors. No conditions.
-/
import Derived.Test.YtbglpmjfajmkdaaDoorVarMem
import Derived.Test.YtbglpmjfajmkdaaDoorDskPlain
import Derived.Lib.ConvBytes
import Derived.Lib.AppendStr
import Derived.Deep.DrawnRows
import Derived.Deep.DeepCutAuto
import Derived.Deep.RegionHeld3
namespace Go.Proofs.YtbglpmjfajmkdaaDoor
open Go.RowKit

theorem _root_.Go.RowKit.Below.drewN' {B : Nat} {a w : World} (h : Below B a w) (n : Nat) : Below B a (w.drewN n) := ⟨h.os, h.tape, h.output, h.size, h.block⟩
theorem _root_.Go.RowKit.Below.lower {a w : World} {B B' : Nat} (h : Below B a w) (hB : B' ≤ B) : Below B' a w := h.mono hB

/-- Of what was there all but the blocks of S is as it was. -/
structure Kept (S : List Nat) (w w' : World) : Prop where
  os : w'.os = w.os
  tape : w'.tape = w.tape
  output : w'.output = w.output
  size : w.heap.size ≤ w'.heap.size
  block : ∀ k, k < w.heap.size → k ∉ S → w'.heap[k]? = w.heap[k]?

theorem heap_lt {w : World} {k : Nat} {o : Obj} (hk : w.heap[k]? = some o) : k < w.heap.size := by
  rcases Nat.lt_or_ge k w.heap.size with h | h
  · exact h
  · rw [Array.getElem?_eq_none h] at hk; cases hk
section
variable {S S' : List Nat} {w w' a b c : World}
theorem Kept.refl (S : List Nat) (w : World) : Kept S w w := ⟨rfl, rfl, rfl, Nat.le_refl _, fun _ _ _ => rfl⟩
theorem Kept.trans (h : Kept S a b) (k : Kept S b c) : Kept S a c :=
  ⟨k.os.trans h.os, k.tape.trans h.tape, k.output.trans h.output, Nat.le_trans h.size k.size, fun i hi hs => (k.block i (Nat.lt_of_lt_of_le hi h.size) hs).trans (h.block i hi hs)⟩
/-- The second step may turn blocks, too, that were not there when the first began. -/
theorem Kept.then (h : Kept S a b) (k : Kept S' b c) (hs : ∀ x ∈ S', x ∈ S ∨ a.heap.size ≤ x) : Kept S a c :=
  ⟨k.os.trans h.os, k.tape.trans h.tape, k.output.trans h.output, Nat.le_trans h.size k.size, fun i hi hn => (k.block i (Nat.lt_of_lt_of_le hi h.size) (fun hm => by rcases hs i hm with h1 | h1; exact hn h1; omega)).trans (h.block i hi hn)⟩
theorem Kept.mono (h : Kept S w w') (hs : ∀ x ∈ S, x ∈ S' ∨ w.heap.size ≤ x) : Kept S' w w' := ⟨h.os, h.tape, h.output, h.size, fun i hi hn => h.block i hi (fun hm => by rcases hs i hm with h1 | h1; exact hn h1; omega)⟩
theorem Kept.of_below (h : Below w.heap.size w w') : Kept S w w' := ⟨h.os, h.tape, h.output, h.size, fun i hi _ => h.block i hi⟩
theorem Kept.below (h : Kept S w w') {B : Nat} (hB : B ≤ w.heap.size) (hs : ∀ x ∈ S, B ≤ x) : Below B w w' := ⟨h.os, h.tape, h.output, h.size, fun i hi => h.block i (by omega) (fun hm => by have := hs i hm; omega)⟩
theorem Kept.nil (h : Kept [] w w') : Below w.heap.size w w' := ⟨h.os, h.tape, h.output, h.size, fun i hi => h.block i hi (by simp)⟩
theorem Kept.alloc (h : Kept S a w) (o : Obj) : Kept S a (w.alloc o) := h.trans (Kept.of_below ((Below.refl _ _).alloc (Nat.le_refl _) _))
theorem Kept.setCell (h : Kept S a w) {p : Addr} (hp : p.block ∈ S ∨ a.heap.size ≤ p.block) (u : Value) : Kept S a (w.setCell p u) :=
  h.then (S' := [p.block]) ⟨rfl, rfl, rfl, by simp [World.setCell], fun k _ hk => Below.heap_setCell _ _ _ _ (by simpa using hk)⟩ (by intro x hx; simp at hx; subst hx; exact hp)
theorem Kept.drewN (h : Kept S a w) (n : Nat) : Kept S a (w.drewN n) := ⟨h.os, h.tape, h.output, h.size, h.block⟩
theorem Kept.drew (h : Kept S a w) : Kept S a w.drew := ⟨h.os, h.tape, h.output, h.size, h.block⟩
theorem Kept.heap (h : Kept S w w') {k : Nat} {o : Obj} (hk : w.heap[k]? = some o) (hn : k ∉ S) : w'.heap[k]? = some o := by
  rw [h.block k (heap_lt hk) hn, hk]
end

/-- What a contract's 'Below' says of the old cells, for the walk. -/
theorem bcell {W w1 : World} (hb : Below W.heap.size W w1) : (∀ b o, b < W.heap.size → w1.cell? ⟨b, o, none⟩ = W.cell? ⟨b, o, none⟩) ∧ (∀ b o, b < W.heap.size → w1.frozen? ⟨b, o, none⟩ = W.frozen? ⟨b, o, none⟩) :=
  ⟨fun b o h => hb.cell (p := ⟨b, o, none⟩) h, fun b o h => hb.frozen (p := ⟨b, o, none⟩) h⟩

/-- Block g is one variable (or a struct) of the type T that holds cs. -/
def Var (w : World) (g : Nat) (T : TypeId) (cs : Array Value) : Prop := w.heap[g]? = some (.cells cs T (0, 0))
section
variable {w w' : World} {g T : Nat} {cs : Array Value} {S : List Nat}
theorem Var.cell (h : Var w g T cs) (i : Nat) {u : Value} (hi : cs[i]? = some u) : w.cell? ⟨g, i, none⟩ = some u := by
  rw [cell_of_row w g i _ T (0, 0) h]; exact hi
theorem Var.free (h : Var w g T cs) (i : Nat) : w.frozen? ⟨g, i, none⟩ = false := by unfold Var at h; simp [World.frozen?, h]
theorem Var.lt (h : Var w g T cs) : g < w.heap.size := heap_lt h
theorem Var.kept (h : Var w g T cs) (k : Kept S w w') (hn : g ∉ S) : Var w' g T cs := k.heap h hn
theorem Var.below (h : Var w g T cs) {B : Nat} (k : Below B w w') (hn : g < B) : Var w' g T cs := (k.block g hn).trans h
theorem Var.alloc (h : Var w g T cs) (o : Obj) : Var (w.alloc o) g T cs := (Below.heap_alloc _ _ _ (heap_lt h)).trans h
theorem Var.new (w : World) (cs : Array Value) (T : TypeId) : Var (w.alloc (.cells cs T)) w.heap.size T cs := heap_alloc_new w _
theorem Var.drewN (h : Var w g T cs) (n : Nat) : Var (w.drewN n) g T cs := h
theorem Var.drew (h : Var w g T cs) : Var w.drew g T cs := h
theorem Var.set (h : Var w g T cs) (i : Nat) (u : Value) : Var (w.setCell ⟨g, i, none⟩ u) g T (cs.setIfInBounds i u) := by
  unfold Var at h ⊢
  simp [World.setCell, Array.getElem?_modify, h]
theorem Var.other (h : Var w g T cs) {b : Nat} (i : Nat) (u : Value) (hne : g ≠ b) : Var (w.setCell ⟨b, i, none⟩ u) g T cs :=
  (Below.heap_setCell _ _ _ _ hne).trans h
end

theorem Var.cells3 {w : World} {g T : Nat} {a b c : Value} (h : Var w g T #[a, b, c]) : w.cell? ⟨g, 0, none⟩ = some a ∧ w.cell? ⟨g, 1, none⟩ = some b ∧ w.cell? ⟨g, 2, none⟩ = some c ∧ ∀ i, w.frozen? ⟨g, i, none⟩ = false :=
  ⟨h.cell 0 rfl, h.cell 1 rfl, h.cell 2 rfl, h.free⟩
theorem Var.cells4 {w : World} {g T : Nat} {a b c d : Value} (h : Var w g T #[a, b, c, d]) : w.cell? ⟨g, 0, none⟩ = some a ∧ w.cell? ⟨g, 1, none⟩ = some b ∧ w.cell? ⟨g, 2, none⟩ = some c ∧ w.cell? ⟨g, 3, none⟩ = some d ∧ ∀ i, w.frozen? ⟨g, i, none⟩ = false :=
  ⟨h.cell 0 rfl, h.cell 1 rfl, h.cell 2 rfl, h.cell 3 rfl, h.free⟩
theorem Var.cells5 {w : World} {g T : Nat} {a b c d e : Value} (h : Var w g T #[a, b, c, d, e]) : w.cell? ⟨g, 0, none⟩ = some a ∧ w.cell? ⟨g, 1, none⟩ = some b ∧ w.cell? ⟨g, 2, none⟩ = some c ∧ w.cell? ⟨g, 3, none⟩ = some d ∧ w.cell? ⟨g, 4, none⟩ = some e ∧ ∀ i, w.frozen? ⟨g, i, none⟩ = false :=
  ⟨h.cell 0 rfl, h.cell 1 rfl, h.cell 2 rfl, h.cell 3 rfl, h.cell 4 rfl, h.free⟩

/-- '[]byte(s)', as the walk asks for it. -/
theorem conv_eq (s : ByteArray) (W : World) : (convert 9 76 (.string s)).run Tryd.prog W = .ok (.slice (some ⟨W.heap.size, 0, none⟩) s.size (grownCap W s.size 0 5)) (Lib.bytesWorld W 5 s) :=
  Lib.run_convert_string_bytes W _ _ _ s Tryd.underlying9 Tryd.underlying76 Tryd.underlying5
theorem conv_below (W : World) (s : ByteArray) (e : TypeId) : Below W.heap.size W (Lib.bytesWorld W e s) := ⟨rfl, rfl, rfl, by rw [Lib.bytesWorld_size]; omega, fun k hk => Lib.bytesWorld_at_old W e s k hk⟩

/-! ### files as cells -/
open DP
def fcells (fs : List Fl) : List Value := fs.flatMap fun f => [.string f.n, .string f.b, .int .i64 f.s]
theorem fcells_length (fs : List Fl) : (fcells fs).length = fs.length * 3 := by
  induction fs with
  | nil => rfl
  | cons x r ih => simp only [fcells, List.flatMap_cons, List.length_append, List.length_cons, List.length_nil] at ih ⊢; omega
theorem fcells_append (a b : List Fl) : fcells (a ++ b) = fcells a ++ fcells b := by simp [fcells]
theorem fcells_one (fs : List Fl) : ∀ u ∈ fcells fs, u.oneCell' = true := by
  intro u hu
  simp only [fcells, List.mem_flatMap] at hu
  obtain ⟨f, _, hu⟩ := hu
  simp at hu
  rcases hu with rfl | rfl | rfl <;> rfl
theorem fcells_nil : fcells [] = [] := rfl
theorem fcells_drop (fs : List Fl) (k : Nat) : (fcells fs).drop (k * 3) = fcells (fs.drop k) := by
  induction fs generalizing k with
  | nil => simp [fcells]
  | cons x r ih =>
    rcases k with _ | k
    · simp
    · rw [List.drop_succ_cons, ← ih, Nat.add_mul]
      simp only [fcells, List.flatMap_cons]
      rw [List.drop_append]
      simp
theorem fcells_take (fs : List Fl) (k : Nat) : (fcells fs).take (k * 3) = fcells (fs.take k) := by
  induction fs generalizing k with
  | nil => simp [fcells]
  | cons x r ih =>
    rcases k with _ | k
    · simp [fcells]
    · rw [List.take_succ_cons, Nat.add_mul]
      have e : fcells (x :: r.take k) = [.string x.n, .string x.b, .int .i64 x.s] ++ fcells (r.take k) := by simp [fcells]
      rw [e, ← ih]
      simp only [fcells, List.flatMap_cons]
      rw [List.take_append]
      simp
theorem fcells_at {fs : List Fl} {k : Nat} {f : Fl} (h : fs[k]? = some f) : (fcells fs)[k * 3]? = some (.string f.n) ∧ (fcells fs)[k * 3 + 1]? = some (.string f.b) ∧ (fcells fs)[k * 3 + 2]? = some (.int .i64 f.s) := by
  have e : fcells fs = fcells (fs.take k) ++ ([.string f.n, .string f.b, .int .i64 f.s] ++ fcells (fs.drop (k + 1))) := by
    obtain ⟨hk, hf⟩ := List.getElem?_eq_some_iff.1 h
    have : fs = fs.take k ++ (f :: fs.drop (k + 1)) := by
      rw [← hf, ← List.drop_eq_getElem_cons hk, List.take_append_drop]
    conv => lhs; rw [this]
    rw [fcells_append]
    congr 1
  obtain ⟨hk, _⟩ := List.getElem?_eq_some_iff.1 h
  have hl : (fcells (fs.take k)).length = k * 3 := by rw [fcells_length, List.length_take]; omega
  rw [e]
  refine ⟨?_, ?_, ?_⟩
  · rw [List.getElem?_append_right (by omega), hl, Nat.sub_self]; rfl
  · rw [List.getElem?_append_right (by omega), hl, show k * 3 + 1 - k * 3 = 1 by omega]; rfl
  · rw [List.getElem?_append_right (by omega), hl, show k * 3 + 2 - k * 3 = 2 by omega]; rfl

/-- The file in place k, in memory. -/
theorem file_at {w : World} {B : Nat} {A : Option Addr} {fs : List Fl} {k : Nat} {f : Fl} (h : Seen w B A (fcells fs)) (hk : fs[k]? = some f) :
    ∃ b off, A = some ⟨b, off, none⟩ ∧ b < B ∧ w.cell? ⟨b, off + k * 3, none⟩ = some (.string f.n) ∧ w.cell? ⟨b, off + k * 3 + 1, none⟩ = some (.string f.b) ∧ w.cell? ⟨b, off + k * 3 + 2, none⟩ = some (.int .i64 f.s) := by
  obtain ⟨h0, h1, h2⟩ := fcells_at hk
  obtain ⟨b, off, rfl, hb, hc⟩ := h (by intro e; rw [e] at h0; simp at h0)
  exact ⟨b, off, rfl, hb, hc _ _ h0, hc _ _ h1, hc _ _ h2⟩
theorem file_here {fs : List Fl} {k n : Nat} (hn : fs.length = n) (hk : k < n) : ∃ f, fs[k]? = some f := ⟨_, List.getElem?_eq_getElem (by omega)⟩
theorem used_take {fs : List Fl} {k : Nat} {f : Fl} (h : fs[k]? = some f) : used (fs.take (k + 1)) = used (fs.take k) + f.b.size := by
  obtain ⟨hk, hf⟩ := List.getElem?_eq_some_iff.1 h
  rw [List.take_succ_eq_append_getElem hk, used_append, hf]
  simp [used]
theorem used_bound {fs : List Fl} (h : Small fs) (k : Nat) : used (fs.take k) ≤ 40000000 := by
  have hk : ∀ l : List Fl, (∀ f ∈ l, f.b.size ≤ 400000) → used l ≤ l.length * 400000 := by
    intro l
    induction l with
    | nil => intro _; simp [used]
    | cons x r ih =>
      intro hs
      have := ih fun f hf => hs f (List.mem_cons_of_mem _ hf)
      have := hs x (List.mem_cons_self ..)
      simp only [used, List.length_cons, Nat.add_mul]
      omega
  have h1 := hk (fs.take k) fun f hf => (h.2 f (List.mem_of_mem_take hf)).1
  have h2 : (fs.take k).length ≤ 100 := by rw [List.length_take]; have := h.1; omega
  have : (fs.take k).length * 400000 ≤ 100 * 400000 := Nat.mul_le_mul_right _ h2
  omega
theorem ret_i64 {a b : Int} (h : a = b) : Ending.returned (.int .i64 a) = .returned (.int .i64 b) := by rw [h]
theorem ret_bool {a b : Bool} (h : a = b) : Ending.returned (.bool a) = .returned (.bool b) := by rw [h]

/-- What the one package variable of errors holds. -/
def Glob (w : World) : Prop := w.cell? ⟨0, 0, none⟩ = some (.iface 91 (.agg #[.pointer (some ⟨1, 60, none⟩)]))
theorem Glob.pos {w : World} (h : Glob w) : 0 < w.heap.size := World.block_lt_of_cell? w _ h
theorem Glob.below {w w' : World} {B : Nat} (h : Glob w) (hB : 0 < B) (hb : Below B w w') : Glob w' := (hb.cell (p := ⟨0, 0, none⟩) hB).trans h
theorem Glob.next {w w' : World} (h : Glob w) (hb : Below w.heap.size w w') : Glob w' := h.below h.pos hb
end Go.Proofs.YtbglpmjfajmkdaaDoor
