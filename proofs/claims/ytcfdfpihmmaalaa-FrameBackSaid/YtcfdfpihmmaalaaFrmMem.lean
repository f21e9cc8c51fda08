/-
  Strings as bytes, rows of strings as cells, variables in memory. No conditions.
-/
import Derived.Test.YtcfdfpihmmaalaaVarMem
import Derived.Test.YtcfdfpihmmaalaaFrmPlain
import Derived.Lib.ConvBytes
import Derived.Lib.AppendStr
namespace Go.Proofs.Ytcfdfpihmmaalaa
open Go.RowKit

theorem heap_lt {w : World} {k : Nat} {o : Obj} (hk : w.heap[k]? = some o) : k < w.heap.size := by
  rcases Nat.lt_or_ge k w.heap.size with h | h
  · exact h
  · rw [Array.getElem?_eq_none h] at hk; cases hk

/-- Block g is one variable of the type T that holds cs. -/
def Var (w : World) (g : Nat) (T : TypeId) (cs : Array Value) : Prop := w.heap[g]? = some (.cells cs T (0, 0))
section
variable {w w' : World} {g T : Nat} {cs : Array Value}
theorem Var.cell (h : Var w g T cs) (i : Nat) {u : Value} (hi : cs[i]? = some u) : w.cell? ⟨g, i, none⟩ = some u := by
  rw [cell_of_row w g i _ T (0, 0) h]; exact hi
theorem Var.free (h : Var w g T cs) (i : Nat) : w.frozen? ⟨g, i, none⟩ = false := by unfold Var at h; simp [World.frozen?, h]
theorem Var.lt (h : Var w g T cs) : g < w.heap.size := heap_lt h
theorem Var.below (h : Var w g T cs) {B : Nat} (k : Below B w w') (hn : g < B) : Var w' g T cs := (k.block g hn).trans h
theorem Var.alloc (h : Var w g T cs) (o : Obj) : Var (w.alloc o) g T cs := (Below.heap_alloc _ _ _ (heap_lt h)).trans h
theorem Var.new (w : World) (cs : Array Value) (T : TypeId) : Var (w.alloc (.cells cs T)) w.heap.size T cs := heap_alloc_new w _
theorem Var.drewN (h : Var w g T cs) (n : Nat) : Var (w.drewN n) g T cs := h
theorem Var.set (h : Var w g T cs) (i : Nat) (u : Value) : Var (w.setCell ⟨g, i, none⟩ u) g T (cs.setIfInBounds i u) := by
  unfold Var at h ⊢
  simp [World.setCell, Array.getElem?_modify, h]
theorem Var.other (h : Var w g T cs) {b : Nat} (i : Nat) (u : Value) (hne : g ≠ b) : Var (w.setCell ⟨b, i, none⟩ u) g T cs :=
  (Below.heap_setCell _ _ _ _ hne).trans h
end
theorem ret_int {k : IntKind} {a b : Int} (h : a = b) : Ending.returned (.int k a) = .returned (.int k b) := by rw [h]
theorem below_drewN {B : Nat} {a w : World} (h : Below B a w) (n : Nat) : Below B a (w.drewN n) := ⟨h.os, h.tape, h.output, h.size, h.block⟩

theorem grown_of_below {W W' : World} (h : Below W.heap.size W W') : W.grownBy W' none := ⟨h.os, h.tape, h.output, h.size, fun k hk _ => h.block k hk⟩
theorem own_below {w w' : World} {base n : Nat} {e : TypeId} {v : Value} {xs : List Value} (h : w.ownsRow base e 1 v n xs) (hb : Below w.heap.size w w') : w'.ownsRow base e 1 v n xs := by
  refine h.kept (grown_of_below hb) ?_
  rcases h.2 with ⟨rfl, _⟩ | ⟨g, cap, cur, rfl, _⟩
  · exact .inl rfl
  · exact .inr (by simp [Value.ownBlock])

theorem beq_zero (t : Nat) : ((t : Int) == 0) = decide (t = 0) := by rw [Bool.eq_iff_iff]; simp
theorem beq_nat (a b : Nat) : ((a : Int) == (b : Int)) = decide (a = b) := by rw [Bool.eq_iff_iff]; simp; omega

/-- A string's bytes. -/
def bytesOf (s : ByteArray) : List UInt8 := s.data.toList
theorem bytesOf_length (s : ByteArray) : (bytesOf s).length = s.size := by unfold bytesOf; simp
theorem bytesOf_mk (l : List UInt8) : bytesOf ⟨l.toArray⟩ = l := by simp [bytesOf]
theorem string_mk (s : ByteArray) : s = ⟨(bytesOf s).toArray⟩ := by cases s; simp [bytesOf]
theorem bytesOf_inj {s t : ByteArray} (h : bytesOf s = bytesOf t) : s = t := by rw [string_mk s, string_mk t, h]
theorem extract_is (s : ByteArray) (a b : Nat) : s.extract a b = ⟨(((bytesOf s).drop a).take (b - a)).toArray⟩ := by
  conv => lhs; rw [string_mk s]
  exact ByteArray.extract_mk _ _ _
theorem bytesOf_extract (s : ByteArray) (a b : Nat) : bytesOf (s.extract a b) = ((bytesOf s).drop a).take (b - a) := by rw [extract_is, bytesOf_mk]
theorem extract_size (s : ByteArray) (a b : Nat) (h1 : a ≤ b) (h2 : b ≤ s.size) : (s.extract a b).size = b - a := by
  rw [← bytesOf_length, bytesOf_extract, List.length_take, List.length_drop, bytesOf_length]; omega
theorem get_is (s : ByteArray) (i : Nat) (h : i < s.size) : s[i] = (bytesOf s)[i]'(by rw [bytesOf_length]; exact h) := by cases s; rfl

/-- '==' of strings, as the walk spells it. -/
theorem eqS (a b : ByteArray) : (a.toList == b.toList) = decide (a = b) := by
  rw [Bool.eq_iff_iff, ByteArray.toList_eq, ByteArray.toList_eq]
  simp only [beq_iff_eq, decide_eq_true_eq]
  exact ⟨fun h => bytesOf_inj h, fun h => by rw [h]⟩

/-- A list of bytes as a string. -/
def str (l : List UInt8) : ByteArray := ⟨l.toArray⟩
theorem bytesOf_str (l : List UInt8) : bytesOf (str l) = l := bytesOf_mk l
theorem str_bytesOf (s : ByteArray) : str (bytesOf s) = s := (string_mk s).symm
theorem str_size (l : List UInt8) : (str l).size = l.length := by rw [← bytesOf_length, bytesOf_str]
theorem str_append (a b : List UInt8) : str (a ++ b) = str a ++ str b := by
  apply bytesOf_inj
  rw [bytesOf_str]
  unfold bytesOf
  simp [str]
theorem str_inj {a b : List UInt8} (h : str a = str b) : a = b := by rw [← bytesOf_str a, ← bytesOf_str b, h]

theorem rows_most (s : ByteArray) {m : Nat} (h : s.size ≤ m) : (FP.rows (bytesOf s)).length ≤ m := by
  have := FP.rows_le (bytesOf s)
  rw [bytesOf_length] at this
  omega

theorem str_info : (Try.prog.info? 9).map (fun i => (i.zero, i.size, i.bytes)) = some (some (.string ByteArray.empty), 1, 16) := by kernel_rfl
/-- Loads as cells. -/
def strs (ls : List (List UInt8)) : List Value := ls.map fun l => .string (str l)
theorem strs_length (ls : List (List UInt8)) : (strs ls).length = ls.length := by simp [strs]
theorem strs_append (a b : List (List UInt8)) : strs (a ++ b) = strs a ++ strs b := by simp [strs]
theorem strs_one (ls : List (List UInt8)) : ∀ u ∈ strs ls, u.oneCell' = true := by
  intro u hu
  simp only [strs, List.mem_map] at hu
  obtain ⟨b, _, rfl⟩ := hu
  rfl
theorem strs_take (ls : List (List UInt8)) (n : Nat) : strs (ls.take n) = (strs ls).take n := by simp [strs, List.map_take]
theorem strs_drop (ls : List (List UInt8)) (n : Nat) : strs (ls.drop n) = (strs ls).drop n := by simp [strs, List.map_drop]
theorem strs_at {ls : List (List UInt8)} {i : Nat} (h : i < ls.length) : (strs ls)[i]? = some (.string (str ls[i])) := by simp [strs, h]
/-- The cell of a load. -/
theorem seen_at {w : World} {B : Nat} {A : Option Addr} {ls : List (List UInt8)} (hs : Seen w B A (strs ls)) {i : Nat} (h : i < ls.length) :
    ∃ b off, A = some ⟨b, off, none⟩ ∧ b < B ∧ w.cell? ⟨b, off + i, none⟩ = some (.string (str ls[i])) := by
  obtain ⟨b, off, rfl, hb, hc⟩ := hs (by intro e; rw [strs, List.map_eq_nil_iff] at e; subst e; simp at h)
  exact ⟨b, off, rfl, hb, hc i _ (strs_at h)⟩

theorem str_size1 : ∀ w, (Go.sizeOf 9).run Try.prog w = .ok 1 w := fun w => by kernel_rfl
/-- 'l[k:]' of loads. -/
theorem cut_from {w : World} {B : Nat} {A : Option Addr} {ls : List (List UInt8)} {n k : Nat} (hn : n = ls.length) (hs : Seen w B A (strs ls)) (c : Nat) (hk : k ≤ n) (hc : n ≤ c) :
    ∃ D, (∀ W, (Instr.slice 28 (.slice A n c) (some (.int .i64 (k : Int))) none none).run Try.prog W = .ok (.slice D (n - k) (c - k)) W) ∧ Seen w B D (strs (ls.drop k)) := by
  have h1 := hs.cut (l := k) (h := n) (c := c) hk (by rw [strs_length]; omega) (by rw [strs_length]; omega)
  rw [← strs_drop, List.take_of_length_le (by rw [strs_length, List.length_drop]; omega)] at h1
  refine ⟨_, fun W => ?_, h1⟩
  have ht' : Try.prog.underlying 28 = some (.slice (Try.prog.elem 28)) := by simp [Program.elem, Try.underlying28]
  have he : Try.prog.elem 28 = 9 := by simp [Program.elem, Try.underlying28]
  rw [run_slice_l W _ _ _ _ ht' .i64 _ (by omega) (by omega), he, str_size1]
  simp [Result.andThen, sliced]
/-- 'l[:k]' of loads. -/
theorem cut_upto {w : World} {B : Nat} {A : Option Addr} {ls : List (List UInt8)} {n k : Nat} (hn : n = ls.length) (hs : Seen w B A (strs ls)) (c : Nat) (hk : k ≤ n) (hc : n ≤ c) :
    ∃ D, (∀ W, (Instr.slice 28 (.slice A n c) none (some (.int .i64 (k : Int))) none).run Try.prog W = .ok (.slice D k c) W) ∧ Seen w B D (strs (ls.take k)) := by
  have h1 := hs.cut (l := 0) (h := k) (c := c) (by omega) (by rw [strs_length]; omega) (by rw [strs_length]; omega)
  rw [List.drop_zero, Nat.sub_zero, ← strs_take] at h1
  refine ⟨_, fun W => ?_, h1⟩
  have ht' : Try.prog.underlying 28 = some (.slice (Try.prog.elem 28)) := by simp [Program.elem, Try.underlying28]
  have he : Try.prog.elem 28 = 9 := by simp [Program.elem, Try.underlying28]
  rw [run_slice_h W _ _ _ _ ht' .i64 _ (by omega) (by omega), he, str_size1]
  simp [Result.andThen, sliced]

/-- '[]byte(s)', as the walk asks for it. -/
theorem conv_eq (s : ByteArray) (W : World) : (convert 9 41 (.string s)).run Try.prog W = .ok (.slice (some ⟨W.heap.size, 0, none⟩) s.size (grownCap W s.size 0 5)) (Lib.bytesWorld W 5 s) :=
  Lib.run_convert_string_bytes W _ _ _ s Try.underlying9 Try.underlying41 Try.underlying5
theorem conv_seen (W : World) (s : ByteArray) (e : TypeId) : Seen (Lib.bytesWorld W e s) (Lib.bytesWorld W e s).heap.size (some ⟨W.heap.size, 0, none⟩) (cells (bytesOf s)) := fun _ =>
  ⟨W.heap.size, 0, rfl, by rw [Lib.bytesWorld_size]; omega, fun j u hu => by
    obtain ⟨hj, rfl⟩ := cells_get hu
    have hj' : j < s.size := by rw [← bytesOf_length]; exact hj
    rw [Nat.zero_add, Lib.bytesWorld_cell W e s j hj']
    unfold bytesOf at hj ⊢
    simp [List.getD, List.getElem?_eq_getElem hj]⟩
theorem conv_below (W : World) (s : ByteArray) (e : TypeId) : Below W.heap.size W (Lib.bytesWorld W e s) := ⟨rfl, rfl, rfl, by rw [Lib.bytesWorld_size]; omega, fun k hk => Lib.bytesWorld_at_old W e s k hk⟩
end Go.Proofs.Ytcfdfpihmmaalaa
