/-
  Contracts of fields' must, of errors.Is at what it panics with, and of Wrong: what each returns and what it does to memory. Conditions: those that each theorem names.
  'Kept S w w'': of what was there in w, all but the blocks of S is in w' as it was; a reader of fields in memory; and strings as bytes. No conditions.
-/
import Derived.Test.YtplpagnnlggfgaaDoorRepG2
import Derived.Defers
import Derived.Recover
import Derived.Stop.Asserts
import Derived.LaidEql
import Derived.RowKitTokens
import Derived.Lib.ConvBytes
import Derived.Lib.AppendStr
namespace Go.Proofs.YtplpagnnlggfgaaDoor
open Go.RowKit Go.Extern.Stop Go.Stop Go.Extern

/-- What must panics with. -/
def wrongV : Value := .iface 162 (.agg #[.iface 23 (.int .i64 70)])

theorem must_yes (w : World) : Calls Tryd.prog 96 #[.bool true] w fun e w' => e = .returned (.tuple #[]) ∧ w = w' := by
  go_enter Tryd.func96, Tryd.ntmps96
  go_wp2
  go_end0
  exact ⟨rfl, rfl⟩

theorem must_no (w : World) : Calls Tryd.prog 96 #[.bool false] w fun e w' => e = .panicked [{ v := wrongV, recovered := false }] ∧ w = w' := by
  unfold wrongV
  go_enter Tryd.func96, Tryd.ntmps96
  go_wp2
  exact ⟨rfl, rfl, rfl⟩


theorem is_typeOf (v : Value) (w : World) : (Extern.ReflectliteType.typeOf #[.iface 23 v]).run Tryd.prog w = .ok (.iface 94 (.agg #[.pointer (some ⟨4, 23, none⟩)])) w := by kernel_rfl
/-- The model's entry for '(rtype).Comparable'. -/
def cmpEntry : Array Value → Sem Value := Extern.ReflectliteType.method fun t => do Extern.Rtype.noPackHeld "Comparable" t; pure (.bool (← typeInfo t).comparable)
theorem is_comparable (w : World) : (cmpEntry #[.agg #[.pointer (some ⟨4, 23, none⟩)]]).run Tryd.prog w = .ok (.bool true) w := by kernel_rfl
theorem is_methodComparable (v : Value) (w : World) : (Go.method 282 94 v "Comparable").run Tryd.prog w = .ok (107, v) w := by kernel_rfl
theorem is_methodUnwrap (v : Value) (w : World) : (Go.method 282 162 v "Unwrap").run Tryd.prog w = .ok (116, v) w := by kernel_rfl
/-- The two errors are equal. -/
theorem is_eq (w : World) : (binOp .eql 40 (.iface 23 (.int .i64 70)) (.iface 23 (.int .i64 70))).run Tryd.prog w = .ok (.bool true) w := by kernel_rfl
theorem is_noIsW (v : Value) (xT : TypeId) (w : World) : (Instr.typeAssert (.iface 162 v) xT 96 true).run Tryd.prog w = .ok (.tuple #[.nilIface, .bool false]) w := run_typeAssert_lacksB Tryd.underlying96 (by kernel_rfl) (by kernel_rfl) v xT w
theorem is_hasUnwrapW (v : Value) (xT : TypeId) (w : World) : (Instr.typeAssert (.iface 162 v) xT 99 true).run Tryd.prog w = .ok (.tuple #[.iface 162 v, .bool true]) w := run_typeAssert_hasB Tryd.underlying99 (by kernel_rfl) v xT w

theorem unwrap_any (w : World) : Calls Tryd.prog 116 #[.agg #[.iface 23 (.int .i64 70)]] w fun e w' => e = .returned (.iface 23 (.int .i64 70)) ∧ Below w.heap.size w w' := by
  go_enter Tryd.func116, Tryd.ntmps116
  go_wp2
  go_ret
  exact ⟨rfl, (Below.refl _ _).alloc (Nat.le_refl _) _⟩

set_option maxRecDepth 100000 in
theorem is_wrong (w : World) : Calls Tryd.prog 17 #[wrongV, .iface 23 (.int .i64 70)] w fun e w' => e = .returned (.bool true) ∧ Below w.heap.size w w' := by
  unfold wrongV
  have h8 := @run_callFunc_extern Tryd.prog 24 _ Extern.ReflectliteType.typeOf Tryd.func24 (by kernel_rfl) (by kernel_rfl) (by kernel_rfl) (by kernel_rfl)
  have h32 := @run_callFunc_extern Tryd.prog 107 _ cmpEntry Tryd.func107 (by kernel_rfl) (by kernel_rfl) (by kernel_rfl) (by kernel_rfl)
  have tT := is_typeOf
  have cT := is_comparable
  have mR := is_methodComparable
  have mU := is_methodUnwrap
  have nW := is_noIsW
  have uW := is_hasUnwrapW
  have heq := is_eq
  have hty := run_eql_iface_types (P := Tryd.prog) 162 23 (.agg #[.iface 23 (.int .i64 70)]) (.int .i64 70) Tryd.underlying40 (by decide) w
  go_enter Tryd.func17, Tryd.ntmps17
  go_wp2
  refine wp_loop_rounds 2 ?_
  rw [rounds_succ]
  go_wp2_with (go_at_call 116; refine (unwrap_any _).mono ?_; rintro e w1 ⟨rfl, hb⟩)
  rw [rounds_succ]
  go_wp2
  go_ret
  exact ⟨rfl, hb⟩

end Go.Proofs.YtplpagnnlggfgaaDoor

namespace Go.Proofs.YtplpagnnlggfgaaDoor
open Go.RowKit

/-- Of what was there all but the blocks of S is as it was. -/
structure Kept (S : List Nat) (w w' : World) : Prop where
  os : w'.os = w.os
  tape : w'.tape = w.tape
  output : w'.output = w.output
  size : w.heap.size ≤ w'.heap.size
  block : ∀ k, k < w.heap.size → k ∉ S → w'.heap[k]? = w.heap[k]?

section
variable {S S' : List Nat} {w w' a b c : World}
theorem Kept.refl (S : List Nat) (w : World) : Kept S w w := ⟨rfl, rfl, rfl, Nat.le_refl _, fun _ _ _ => rfl⟩
theorem Kept.trans (h : Kept S a b) (k : Kept S b c) : Kept S a c :=
  ⟨k.os.trans h.os, k.tape.trans h.tape, k.output.trans h.output, Nat.le_trans h.size k.size, fun i hi hs => (k.block i (Nat.lt_of_lt_of_le hi h.size) hs).trans (h.block i hi hs)⟩
/-- The second step may turn blocks, too, that were not there when the first began. -/
theorem Kept.then (h : Kept S a b) (k : Kept S' b c) (hs : ∀ x ∈ S', x ∈ S ∨ a.heap.size ≤ x) : Kept S a c :=
  ⟨k.os.trans h.os, k.tape.trans h.tape, k.output.trans h.output, Nat.le_trans h.size k.size, fun i hi hn => (k.block i (Nat.lt_of_lt_of_le hi h.size) (fun hm => by rcases hs i hm with h1 | h1; exact hn h1; omega)).trans (h.block i hi hn)⟩
theorem Kept.mono (h : Kept S w w') (hs : ∀ x ∈ S, x ∈ S' ∨ w.heap.size ≤ x) : Kept S' w w' := ⟨h.os, h.tape, h.output, h.size, fun i hi hn => h.block i hi (fun hm => by rcases hs i hm with h1 | h1; exact hn h1; omega)⟩
theorem Kept.of_below (h : Below w.heap.size w w') : Kept S w w' := ⟨h.os, h.tape, h.output, h.size, fun i hi _ => h.block i hi⟩
theorem Kept.below (h : Kept S w w') {B : Nat} (hB : B ≤ w.heap.size) (hs : ∀ x ∈ S, B ≤ x) : Below B w w' := ⟨h.os, h.tape, h.output, h.size, fun i hi => h.block i (by omega) (fun hm => by have := hs i hm; omega)⟩
theorem Kept.nil (h : Kept [] w w') : Below w.heap.size w w' := ⟨h.os, h.tape, h.output, h.size, fun i hi => h.block i hi (by simp)⟩
theorem Kept.alloc (h : Kept S a w) (o : Obj) : Kept S a (w.alloc o) := h.trans (Kept.of_below ((Below.refl _ _).alloc (Nat.le_refl _) _))
theorem Kept.setCell (h : Kept S a w) {p : Addr} (hp : p.block ∈ S ∨ a.heap.size ≤ p.block) (u : Value) : Kept S a (w.setCell p u) :=
  h.then (S' := [p.block]) ⟨rfl, rfl, rfl, by simp [World.setCell], fun k _ hk => Below.heap_setCell _ _ _ _ (by simpa using hk)⟩ (by intro x hx; simp at hx; subst hx; exact hp)
theorem Kept.drewN (h : Kept S a w) (n : Nat) : Kept S a (w.drewN n) := ⟨h.os, h.tape, h.output, h.size, h.block⟩
theorem Kept.drew (h : Kept S a w) : Kept S a w.drew := ⟨h.os, h.tape, h.output, h.size, h.block⟩
theorem Kept.heap (h : Kept S w w') {k : Nat} {o : Obj} (hk : w.heap[k]? = some o) (hn : k ∉ S) : w'.heap[k]? = some o := by
  have hlt : k < w.heap.size := by
    rcases Nat.lt_or_ge k w.heap.size with h | h
    · exact h
    · rw [Array.getElem?_eq_none h] at hk; cases hk
  rw [h.block k hlt hn, hk]
theorem heap_lt {w : World} {k : Nat} {o : Obj} (hk : w.heap[k]? = some o) : k < w.heap.size := by
  rcases Nat.lt_or_ge k w.heap.size with h | h
  · exact h
  · rw [Array.getElem?_eq_none h] at hk; cases hk
end

/-- Block g is one variable (or a struct) of the type T that holds cs. -/
def Var (w : World) (g : Nat) (T : TypeId) (cs : Array Value) : Prop := w.heap[g]? = some (.cells cs T (0, 0))
section
variable {w w' : World} {g T : Nat} {cs : Array Value} {S : List Nat}
theorem Var.cell (h : Var w g T cs) (i : Nat) {u : Value} (hi : cs[i]? = some u) : w.cell? ⟨g, i, none⟩ = some u := by
  rw [cell_of_row w g i _ T (0, 0) h]; exact hi
theorem Var.free (h : Var w g T cs) (i : Nat) : w.frozen? ⟨g, i, none⟩ = false := by unfold Var at h; simp [World.frozen?, h]
theorem Var.lt (h : Var w g T cs) : g < w.heap.size := heap_lt h
theorem Var.kept (h : Var w g T cs) (k : Kept S w w') (hn : g ∉ S) : Var w' g T cs := k.heap h hn
theorem Var.below (h : Var w g T cs) {B : Nat} (k : Below B w w') (hn : g < B) : Var w' g T cs := (k.block g hn).trans h
theorem Var.alloc (h : Var w g T cs) (o : Obj) : Var (w.alloc o) g T cs := (Below.heap_alloc _ _ _ (heap_lt h)).trans h
theorem Var.new (w : World) (cs : Array Value) (T : TypeId) : Var (w.alloc (.cells cs T)) w.heap.size T cs := heap_alloc_new w _
theorem Var.drewN (h : Var w g T cs) (n : Nat) : Var (w.drewN n) g T cs := h
theorem Var.set (h : Var w g T cs) (i : Nat) (u : Value) : Var (w.setCell ⟨g, i, none⟩ u) g T (cs.setIfInBounds i u) := by
  unfold Var at h ⊢
  simp [World.setCell, Array.getElem?_modify, h]
theorem Var.other (h : Var w g T cs) {b : Nat} (i : Nat) (u : Value) (hne : g ≠ b) : Var (w.setCell ⟨b, i, none⟩ u) g T cs :=
  (Below.heap_setCell _ _ _ _ hne).trans h
end

/-- Block g is a reader: its bytes, its place, whether it is stopped. -/
def Rd (T : TypeId) (w : World) (g : Nat) (s : ByteArray) (p : Nat) (bad : Bool) : Prop := Var w g T #[.string s, .int .i64 (p : Int), .bool bad]
section
variable {T : TypeId} {w w' : World} {g : Nat} {s : ByteArray} {p : Nat} {bad : Bool} {S : List Nat}
theorem Rd.cells (h : Rd T w g s p bad) : w.cell? ⟨g, 0, none⟩ = some (.string s) ∧ w.cell? ⟨g, 1, none⟩ = some (.int .i64 (p : Int)) ∧ w.cell? ⟨g, 2, none⟩ = some (.bool bad) :=
  ⟨Var.cell h 0 rfl, Var.cell h 1 rfl, Var.cell h 2 rfl⟩
theorem Rd.setAt (h : Rd T w g s p bad) (q : Nat) : Rd T (w.setCell ⟨g, 1, none⟩ (.int .i64 (q : Int))) g s q bad := Var.set h 1 _
theorem Rd.setBad (h : Rd T w g s p bad) (x : Bool) : Rd T (w.setCell ⟨g, 2, none⟩ (.bool x)) g s p x := Var.set h 2 _
end

/-- A string's bytes. -/
def bytesOf (s : ByteArray) : List UInt8 := s.data.toList
theorem bytesOf_length (s : ByteArray) : (bytesOf s).length = s.size := by unfold bytesOf; simp
theorem bytesOf_mk (l : List UInt8) : bytesOf ⟨l.toArray⟩ = l := by simp [bytesOf]
theorem string_mk (s : ByteArray) : s = ⟨(bytesOf s).toArray⟩ := by cases s; simp [bytesOf]
theorem extract_is (s : ByteArray) (a b : Nat) : s.extract a b = ⟨(((bytesOf s).drop a).take (b - a)).toArray⟩ := by
  conv => lhs; rw [string_mk s]
  exact ByteArray.extract_mk _ _ _
theorem bytesOf_extract (s : ByteArray) (a b : Nat) : bytesOf (s.extract a b) = ((bytesOf s).drop a).take (b - a) := by rw [extract_is, bytesOf_mk]
theorem extract_size (s : ByteArray) (a b : Nat) (h1 : a ≤ b) (h2 : b ≤ s.size) : (s.extract a b).size = b - a := by
  rw [← bytesOf_length, bytesOf_extract, List.length_take, List.length_drop, bytesOf_length]; omega
theorem get_is (s : ByteArray) (i : Nat) (h : i < s.size) : s[i] = (bytesOf s)[i]'(by rw [bytesOf_length]; exact h) := by cases s; rfl

/-- '[]byte(s)': new memory that holds the bytes. -/
theorem conv_bytes {P : Program} (w : World) (src dst e : TypeId) (s : ByteArray) {u : TypeDesc} (hs : P.underlying src = some u) (hd : P.underlying dst = some (.slice e)) (he : P.underlying e = some (.int .u8)) :
    ∃ A c w', (convert src dst (.string s)).run P w = .ok (.slice A s.size c) w' ∧ Seen w' w'.heap.size A (cells (bytesOf s)) ∧ s.size ≤ c ∧ Below w.heap.size w w' := by
  refine ⟨_, _, _, Lib.run_convert_string_bytes w src dst e s hs hd he, fun _ => ⟨w.heap.size, 0, rfl, ?_, fun j u hu => ?_⟩, ?_, ⟨rfl, rfl, rfl, ?_, fun k hk => Lib.bytesWorld_at_old w e s k hk⟩⟩
  · rw [Lib.bytesWorld_size]; omega
  · obtain ⟨hj, rfl⟩ := cells_get hu
    have hj' : j < s.size := by rw [← bytesOf_length]; exact hj
    rw [Nat.zero_add, Lib.bytesWorld_cell w e s j hj']
    unfold bytesOf at hj ⊢
    simp [List.getD, List.getElem?_eq_getElem hj]
  · exact grownCap_ge w s.size 0 e
  · rw [Lib.bytesWorld_size]; omega

theorem strCells_is (s : ByteArray) : Lib.strCells s = cells (bytesOf s) := rfl

end Go.Proofs.YtplpagnnlggfgaaDoor
