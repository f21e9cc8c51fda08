/-
  Strings as bytes, rows of strings as cells, variables in memory. No conditions.
  What Bytes, Loads, Do, Put and Mend of files make, in plain words (no program). No conditions.
  Contracts of frame's and the reference's Size: what each returns. Conditions: those that each theorem names.
  Contracts of frame's lengthOf and number: what each returns and what it does to memory. Conditions: those that each theorem names.
  Contract of frame's sizeOfFirst: how many bytes the first frame has. Conditions: those that each theorem names.
  Contract of frame's First: what it returns and what it does to memory. Conditions: those that each theorem names.
  Contract of the function over which frame goes (frames): the loads of the frames with which the bytes begin, each with the place where its frame ends. Conditions: those that each theorem names.
  'Stays': of the blocks below a place all but those named are as they were. No conditions.
  Contract of frame's All: what it returns and what it does to memory. Conditions: those that each theorem names.
-/
import Derived.Test.YtpppeadmhfggkaaGreatDoorFilG2
import Derived.Test.YtpppeadmhfggkaaGreatDoorFilG1
import Derived.Lib.ConvBytes
import Derived.Lib.AppendStr
import Derived.Lib.SlBuf
import Derived.Laws.CopyRow
import Derived.Laws.CopyOwn
import Derived.RangeFuncNested
import Derived.RangeFuncBound
import Derived.RangeFuncCalls
import Derived.RangeFuncLeaves
import Derived.RangeFuncBox
import Derived.Shelf.Abstract
import Derived.Shelf.RegionOpen
import Derived.OwnWalkIn
import Derived.TacticsInMore
import Derived.LoopNIn
import Derived.LoopIn
import Derived.Maps.AppendAt
namespace Go.Proofs.YtpppeadmhfggkaaGreatDoor
open Go.RowKit

theorem ret_int {k : IntKind} {a b : Int} (h : a = b) : Ending.returned (.int k a) = .returned (.int k b) := by rw [h]
theorem below_drewN {B : Nat} {a w : World} (h : Below B a w) (n : Nat) : Below B a (w.drewN n) := ⟨h.os, h.tape, h.output, h.size, h.block⟩

theorem grown_of_below {W W' : World} (h : Below W.heap.size W W') : W.grownBy W' none := ⟨h.os, h.tape, h.output, h.size, fun k hk _ => h.block k hk⟩
theorem beq_zero (t : Nat) : ((t : Int) == 0) = decide (t = 0) := by rw [Bool.eq_iff_iff]; simp
theorem beq_nat (a b : Nat) : ((a : Int) == (b : Int)) = decide (a = b) := by rw [Bool.eq_iff_iff]; simp; omega

/-- A string's bytes. -/
def bytesOf (s : ByteArray) : List UInt8 := s.data.toList
theorem bytesOf_length (s : ByteArray) : (bytesOf s).length = s.size := by unfold bytesOf; simp
theorem bytesOf_mk (l : List UInt8) : bytesOf ⟨l.toArray⟩ = l := by simp [bytesOf]
theorem string_mk (s : ByteArray) : s = ⟨(bytesOf s).toArray⟩ := by cases s; simp [bytesOf]
theorem bytesOf_inj {s t : ByteArray} (h : bytesOf s = bytesOf t) : s = t := by rw [string_mk s, string_mk t, h]
theorem extract_is (s : ByteArray) (a b : Nat) : s.extract a b = ⟨(((bytesOf s).drop a).take (b - a)).toArray⟩ := by
  conv => lhs; rw [string_mk s]
  exact ByteArray.extract_mk _ _ _
theorem bytesOf_extract (s : ByteArray) (a b : Nat) : bytesOf (s.extract a b) = ((bytesOf s).drop a).take (b - a) := by rw [extract_is, bytesOf_mk]
theorem extract_size (s : ByteArray) (a b : Nat) (h1 : a ≤ b) (h2 : b ≤ s.size) : (s.extract a b).size = b - a := by
  rw [← bytesOf_length, bytesOf_extract, List.length_take, List.length_drop, bytesOf_length]; omega
theorem get_is (s : ByteArray) (i : Nat) (h : i < s.size) : s[i] = (bytesOf s)[i]'(by rw [bytesOf_length]; exact h) := by cases s; rfl

/-- '==' of strings, as the walk spells it. -/
theorem eqS (a b : ByteArray) : (a.toList == b.toList) = decide (a = b) := by
  rw [Bool.eq_iff_iff, ByteArray.toList_eq, ByteArray.toList_eq]
  simp only [beq_iff_eq, decide_eq_true_eq]
  exact ⟨fun h => bytesOf_inj h, fun h => by rw [h]⟩

/-- A list of bytes as a string. -/
def str (l : List UInt8) : ByteArray := ⟨l.toArray⟩
theorem bytesOf_str (l : List UInt8) : bytesOf (str l) = l := bytesOf_mk l
theorem str_bytesOf (s : ByteArray) : str (bytesOf s) = s := (string_mk s).symm
theorem str_size (l : List UInt8) : (str l).size = l.length := by rw [← bytesOf_length, bytesOf_str]
theorem str_append (a b : List UInt8) : str (a ++ b) = str a ++ str b := by
  apply bytesOf_inj
  rw [bytesOf_str]
  unfold bytesOf
  simp [str]
theorem str_inj {a b : List UInt8} (h : str a = str b) : a = b := by rw [← bytesOf_str a, ← bytesOf_str b, h]

theorem rows_most (s : ByteArray) {m : Nat} (h : s.size ≤ m) : (FP.rows (bytesOf s)).length ≤ m := by
  have := FP.rows_le (bytesOf s)
  rw [bytesOf_length] at this
  omega

theorem str_info : (Tryz.prog.info? 9).map (fun i => (i.zero, i.size, i.bytes)) = some (some (.string ByteArray.empty), 1, 16) := by kernel_rfl
/-- Loads as cells. -/
def strs (ls : List (List UInt8)) : List Value := ls.map fun l => .string (str l)
theorem strs_length (ls : List (List UInt8)) : (strs ls).length = ls.length := by simp [strs]
theorem strs_append (a b : List (List UInt8)) : strs (a ++ b) = strs a ++ strs b := by simp [strs]
theorem strs_one (ls : List (List UInt8)) : ∀ u ∈ strs ls, u.oneCell' = true := by
  intro u hu
  simp only [strs, List.mem_map] at hu
  obtain ⟨b, _, rfl⟩ := hu
  rfl
theorem strs_take (ls : List (List UInt8)) (n : Nat) : strs (ls.take n) = (strs ls).take n := by simp [strs, List.map_take]
theorem strs_drop (ls : List (List UInt8)) (n : Nat) : strs (ls.drop n) = (strs ls).drop n := by simp [strs, List.map_drop]
theorem strs_at {ls : List (List UInt8)} {i : Nat} (h : i < ls.length) : (strs ls)[i]? = some (.string (str ls[i])) := by simp [strs, h]
/-- The cell of a load. -/
theorem seen_at {w : World} {B : Nat} {A : Option Addr} {ls : List (List UInt8)} (hs : Seen w B A (strs ls)) {i : Nat} (h : i < ls.length) :
    ∃ b off, A = some ⟨b, off, none⟩ ∧ b < B ∧ w.cell? ⟨b, off + i, none⟩ = some (.string (str ls[i])) := by
  obtain ⟨b, off, rfl, hb, hc⟩ := hs (by intro e; rw [strs, List.map_eq_nil_iff] at e; subst e; simp at h)
  exact ⟨b, off, rfl, hb, hc i _ (strs_at h)⟩

theorem str_size1 : ∀ w, (Go.sizeOf 9).run Tryz.prog w = .ok 1 w := fun w => by kernel_rfl
/-- 'l[k:]' of loads. -/
theorem cut_from {w : World} {B : Nat} {A : Option Addr} {ls : List (List UInt8)} {n k : Nat} (hn : n = ls.length) (hs : Seen w B A (strs ls)) (c : Nat) (hk : k ≤ n) (hc : n ≤ c) :
    ∃ D, (∀ W, (Instr.slice 40 (.slice A n c) (some (.int .i64 (k : Int))) none none).run Tryz.prog W = .ok (.slice D (n - k) (c - k)) W) ∧ Seen w B D (strs (ls.drop k)) := by
  have h1 := hs.cut (l := k) (h := n) (c := c) hk (by rw [strs_length]; omega) (by rw [strs_length]; omega)
  rw [← strs_drop, List.take_of_length_le (by rw [strs_length, List.length_drop]; omega)] at h1
  refine ⟨_, fun W => ?_, h1⟩
  have ht' : Tryz.prog.underlying 40 = some (.slice (Tryz.prog.elem 40)) := by simp [Program.elem, Tryz.underlying40]
  have he : Tryz.prog.elem 40 = 9 := by simp [Program.elem, Tryz.underlying40]
  rw [run_slice_l W _ _ _ _ ht' .i64 _ (by omega) (by omega), he, str_size1]
  simp [Result.andThen, sliced]
/-- 'l[:k]' of loads. -/
theorem cut_upto {w : World} {B : Nat} {A : Option Addr} {ls : List (List UInt8)} {n k : Nat} (hn : n = ls.length) (hs : Seen w B A (strs ls)) (c : Nat) (hk : k ≤ n) (hc : n ≤ c) :
    ∃ D, (∀ W, (Instr.slice 40 (.slice A n c) none (some (.int .i64 (k : Int))) none).run Tryz.prog W = .ok (.slice D k c) W) ∧ Seen w B D (strs (ls.take k)) := by
  have h1 := hs.cut (l := 0) (h := k) (c := c) (by omega) (by rw [strs_length]; omega) (by rw [strs_length]; omega)
  rw [List.drop_zero, Nat.sub_zero, ← strs_take] at h1
  refine ⟨_, fun W => ?_, h1⟩
  have ht' : Tryz.prog.underlying 40 = some (.slice (Tryz.prog.elem 40)) := by simp [Program.elem, Tryz.underlying40]
  have he : Tryz.prog.elem 40 = 9 := by simp [Program.elem, Tryz.underlying40]
  rw [run_slice_h W _ _ _ _ ht' .i64 _ (by omega) (by omega), he, str_size1]
  simp [Result.andThen, sliced]

theorem conv_seen (W : World) (s : ByteArray) (e : TypeId) : Seen (Lib.bytesWorld W e s) (Lib.bytesWorld W e s).heap.size (some ⟨W.heap.size, 0, none⟩) (cells (bytesOf s)) := fun _ =>
  ⟨W.heap.size, 0, rfl, by rw [Lib.bytesWorld_size]; omega, fun j u hu => by
    obtain ⟨hj, rfl⟩ := cells_get hu
    have hj' : j < s.size := by rw [← bytesOf_length]; exact hj
    rw [Nat.zero_add, Lib.bytesWorld_cell W e s j hj']
    unfold bytesOf at hj ⊢
    simp [List.getD, List.getElem?_eq_getElem hj]⟩
end Go.Proofs.YtpppeadmhfggkaaGreatDoor

namespace Go.Proofs.YtpppeadmhfggkaaGreatDoor.DP

/-- No load is too long. -/
def fits (ls : List (List UInt8)) : Bool := ls.all fun x => decide (x.length ≤ 1024)
/-- The frames of loads, one behind the other; none if a load is too long. -/
def flatS (ls : List (List UInt8)) : ByteArray := if fits ls then str (FP.flat ls) else none_
def flatE (ls : List (List UInt8)) : Int := if fits ls then 0 else 2
theorem fits_all {ls : List (List UInt8)} : fits ls = true ↔ ∀ x ∈ ls, x.length ≤ 1024 := by simp [fits]
theorem flatS_yes {ls : List (List UInt8)} (h : fits ls = true) : flatS ls = str (FP.flat ls) := if_pos h
theorem flatS_no {ls : List (List UInt8)} (h : fits ls = false) : flatS ls = none_ := if_neg (by rw [h]; simp)
theorem flatE_yes {ls : List (List UInt8)} (h : fits ls = true) : flatE ls = 0 := if_pos h
theorem flatE_no {ls : List (List UInt8)} (h : fits ls = false) : flatE ls = 2 := if_neg (by rw [h]; simp)
theorem sum_fits {ls : List (List UInt8)} (h : fits ls = true) : FP.sum ls ≤ 1028 * ls.length := by
  rw [fits_all] at h
  induction ls with
  | nil => simp [FP.sum]
  | cons x r ih =>
    have h1 := h x (by simp)
    have h2 := ih fun y hy => h y (by simp [hy])
    simp only [FP.sum, List.length_cons]
    omega
theorem flatS_size (ls : List (List UInt8)) : (flatS ls).size ≤ 1028 * ls.length := by
  cases h : fits ls
  · rw [flatS_no h]; exact Nat.zero_le _
  · rw [flatS_yes h, str_size, FP.flat_length]; exact sum_fits h

/-- What went wrong: an operation, its file, a number. -/
abbrev Flt := Option (Int × ByteArray × Int)
def doAll (d : Dk) : List Wr → Dk × Flt
  | [] => (d, none)
  | w :: r =>
    if (does d w).2 = 0 then doAll (does d w).1 r
    else if (does d w).2 = 30 ∧ d.down = false then ((does d w).1, some (w.op, w.file, (does d w).2))
    else (d, some (w.op, w.file, (does d w).2))
theorem doAll_nil (d : Dk) : doAll d [] = (d, none) := rfl
theorem doAll_ok {d d' : Dk} {w : Wr} {r : List Wr} (h : does d w = (d', 0)) : doAll d (w :: r) = doAll d' r := by
  rw [doAll, h, if_pos rfl]
theorem doAll_fall {d d' : Dk} {w : Wr} {r : List Wr} (h : does d w = (d', 30)) (hd : d.down = false) : doAll d (w :: r) = (d', some (w.op, w.file, 30)) := by
  rw [doAll, h, if_neg (by simp), if_pos ⟨rfl, hd⟩]
theorem doAll_no {d d' : Dk} {w : Wr} {r : List Wr} {e : Int} (h : does d w = (d', e)) (h0 : e ≠ 0) (hd : ¬ (e = 30 ∧ d.down = false)) : doAll d (w :: r) = (d, some (w.op, w.file, e)) := by
  rw [doAll, h, if_neg h0, if_neg hd]

/-- The bytes of a file. -/
def bytesIn (d : Dk) (name : ByteArray) : ByteArray := ((get d.fs name).getD noFile).b
def tornIn (d : Dk) (name : ByteArray) : Nat := FP.torn (bytesOf (bytesIn d name))
def rowsIn (d : Dk) (name : ByteArray) : List (List UInt8) := FP.rows (bytesOf (bytesIn d name))
def puts (d : Dk) (name : ByteArray) (ls : List (List UInt8)) : Dk × Flt := doAll d [⟨0, name, flatS ls, 0⟩, ⟨1, name, none_, 0⟩]
def mendOps (d : Dk) (name : ByteArray) : List Wr := if tornIn d name = 0 then [] else [⟨3, name, none_, ((bytesIn d name).size : Int) - (tornIn d name : Int)⟩]
def mends (d : Dk) (name : ByteArray) : Dk × Flt := doAll d (mendOps d name)
theorem torn_size (d : Dk) (name : ByteArray) : tornIn d name ≤ (bytesIn d name).size := by
  have := FP.torn_le (bytesOf (bytesIn d name))
  rw [bytesOf_length] at this
  exact this

/-- A disk that is not too great. -/
def Mild (d : Dk) : Prop := Small d.fs ∧ -9223372036854775808 ≤ d.left ∧ d.left ≤ 9223372036854775807
theorem does_invalid {d : Dk} {w : Wr} (h : check d = false) : does d w = (noDisk, 2) := by
  unfold does
  rw [if_pos (.inl h)]
theorem mild_fine {d : Dk} (h : Mild d) (hc : check d = true) : Fine d := ⟨hc, h.2⟩
theorem fine_mild {d : Dk} (h : Fine d) : Mild d := ⟨h.small, h.2⟩
theorem mild_does {d d' : Dk} {w : Wr} (h : Mild d) (hd : does d w = (d', 0)) : check d = true ∧ Fine d' := by
  cases hc : check d
  · rw [does_invalid hc] at hd
    simp at hd
  · exact ⟨rfl, fine_does (mild_fine h hc) hd⟩
theorem get_small {fs : List Fl} (h : Small fs) (name : ByteArray) : ((get fs name).getD noFile).b.size ≤ 400000 := by
  cases hg : get fs name with
  | none => exact Nat.zero_le _
  | some f => exact (h.2 f (List.mem_of_find?_eq_some hg)).1
theorem mild_bytes {d : Dk} (h : Mild d) (name : ByteArray) : (bytesIn d name).size ≤ 400000 := get_small h.1 name
theorem great_small {d : Dk} (h : great d = false) : Small d.fs := by
  unfold great at h
  rw [Bool.or_eq_false_iff] at h
  have h1 := of_decide_eq_false h.1
  refine ⟨by omega, fun f hf => ?_⟩
  have h2 := List.any_eq_false.1 h.2 f hf
  unfold greatF at h2
  simp only [Bool.or_eq_true, decide_eq_true_eq, not_or] at h2
  omega
end Go.Proofs.YtpppeadmhfggkaaGreatDoor.DP

namespace Go.Proofs.YtpppeadmhfggkaaGreatDoor
open Go.RowKit

theorem size_yes (n : Nat) (w : World) (h : n ≤ 1024) : Calls Tryz.prog 79 #[.int .i64 (n : Int)] w fun e w' => e = .returned (.int .i64 ((n + 4 : Nat) : Int)) ∧ w = w' := by
  go_enter Tryz.func79, Tryz.ntmps79
  go_wp2
  go_ret
  exact ⟨ret_int (by omega), rfl⟩
theorem size_no (n : Int) (w : World) (h : n < 0 ∨ 1024 < n) : Calls Tryz.prog 79 #[.int .i64 n] w fun e w' => e = .returned (.int .i64 0) ∧ w = w' := by
  rcases h with h | h
  all_goals
    go_enter Tryz.func79, Tryz.ntmps79
    go_wp2
    go_ret
    exact ⟨rfl, rfl⟩
end Go.Proofs.YtpppeadmhfggkaaGreatDoor

namespace Go.Proofs.YtpppeadmhfggkaaGreatDoor
open Go.RowKit

/-- The array of four bytes. -/
def four (a b c d : Int) : Array Value := #[.int .u8 a, .int .u8 b, .int .u8 c, .int .u8 d]
/-- .. when k of them are laid. -/
def lenArr (n : Int) : Nat → Array Value
  | 0 => four 0 0 0 0
  | 1 => four (n % 256) 0 0 0
  | _ => four (n % 256) (n / 256) 0 0
theorem four_cells {w : World} {g T : Nat} {a b c d : Int} (h : Var w g T (four a b c d)) :
    (w.cell? ⟨g, 0, none⟩ = some (.int .u8 a) ∧ w.cell? ⟨g, 1, none⟩ = some (.int .u8 b) ∧ w.cell? ⟨g, 2, none⟩ = some (.int .u8 c) ∧ w.cell? ⟨g, 3, none⟩ = some (.int .u8 d)) ∧
    w.frozen? ⟨g, 0, none⟩ = false ∧ w.frozen? ⟨g, 1, none⟩ = false ∧ w.frozen? ⟨g, 2, none⟩ = false ∧ w.frozen? ⟨g, 3, none⟩ = false :=
  ⟨⟨h.cell 0 rfl, h.cell 1 rfl, h.cell 2 rfl, h.cell 3 rfl⟩, h.free 0, h.free 1, h.free 2, h.free 3⟩

set_option maxRecDepth 100000 in
set_option maxHeartbeats 400000 in
theorem lengthOf_yes (n : Nat) (w : World) (hn : n ≤ 1024) :
    Calls Tryz.prog 80 #[.int .i64 (n : Int)] w fun e w' => e = .returned (.agg (four ((n : Int) % 256) ((n : Int) / 256) 0 0)) ∧ Below w.heap.size w w' := by
  go_enter Tryz.func80, Tryz.ntmps80
  go_wp2
  go_loopw [4, 5] (fun i x wr => ∃ k : Nat, k ≤ 4 ∧ x = .int .i64 k ∧ Below w.heap.size w wr ∧ Var wr w.heap.size 141 (four 0 0 0 0) ∧ Var wr (w.heap.size + 1) 141 (lenArr n k)) (fun _ x _ => 4 - (intOf x).toNat)
  case atStart =>
    refine ⟨0, by omega, rfl, ((Below.refl _ _).alloc (Nat.le_refl _) _).alloc (by simp) _, (Var.new w _ _).alloc _, ?_⟩
    have h := Var.new (w.alloc (.cells (four 0 0 0 0) 141)) (four 0 0 0 0) 141
    rw [World.size_alloc] at h
    exact h
  case round =>
    obtain ⟨k, hk, rfl, hb, h0, h1⟩ := hrel
    have hs1 : ∀ u i, Below w.heap.size w (wr.setCell ⟨w.heap.size + 1, i, none⟩ u) := fun u i => hb.setCell (by simp) _
    rcases k with _ | _ | _ | _ | _ | k
    · obtain ⟨⟨c0, c1, c2, c3⟩, f0, f1, f2, f3⟩ := four_cells h1
      go_wp2
      go_roundw
      case rel => exact ⟨1, by omega, rfl, hs1 _ _, h0.other _ _ (by omega), h1.set 0 _⟩
      case measure => simp [intOf]
    · obtain ⟨⟨c0, c1, c2, c3⟩, f0, f1, f2, f3⟩ := four_cells h1
      go_wp2
      go_roundw
      case rel => exact ⟨2, by omega, rfl, hs1 _ _, h0.other _ _ (by omega), h1.set 1 _⟩
      case measure => simp [intOf]
    · obtain ⟨⟨c0, c1, c2, c3⟩, f0, f1, f2, f3⟩ := four_cells h1
      have z2 : (n : Int) / 65536 = 0 := by omega
      go_wp2
      go_roundw
      case rel => exact ⟨3, by omega, rfl, hs1 _ _, h0.other _ _ (by omega), h1.set 2 _⟩
      case measure => simp [intOf]
    · obtain ⟨⟨c0, c1, c2, c3⟩, f0, f1, f2, f3⟩ := four_cells h1
      have z3 : (n : Int) / 16777216 = 0 := by omega
      go_wp2
      go_roundw
      case rel => exact ⟨4, by omega, rfl, hs1 _ _, h0.other _ _ (by omega), h1.set 3 _⟩
      case measure => simp [intOf]
    · obtain ⟨⟨c0, c1, c2, c3⟩, f0, f1, f2, f3⟩ := four_cells h1
      obtain ⟨⟨d0, d1, d2, d3⟩, g0, g1, g2, g3⟩ := four_cells h0
      go_wp2
      exact bodyPost_ret (v := .agg (four ((n : Int) % 256) ((n : Int) / 256) 0 0)) (by simp [results, Tryz.results80, go_sem, d0, d1, d2, d3, four]) rfl ⟨rfl, (((hb.setCell (by simp) _).setCell (by simp) _).setCell (by simp) _).setCell (by simp) _⟩
    · omega

theorem or_add (x y k : Nat) (hx : x < 2 ^ k) (hy : x + y * 2 ^ k < 9223372036854775808) : bits .or .i64 (x : Int) ((y * 2 ^ k : Nat) : Int) = ((x + y * 2 ^ k : Nat) : Int) := by
  rw [or_i64 _ _ (by omega) (by omega)]
  have h := Nat.two_pow_add_eq_or_of_lt (i := k) (b := x) hx y
  rw [Nat.or_comm, Nat.mul_comm y, ← h, Nat.add_comm]

/-- What the first k bytes say. -/
def part (a b c d : Nat) : Nat → Nat
  | 0 => 0
  | 1 => a
  | 2 => a + b * 256
  | 3 => a + b * 256 + c * 65536
  | _ => a + b * 256 + c * 65536 + d * 16777216

set_option maxRecDepth 100000 in
set_option maxHeartbeats 400000 in
theorem number_any (a b c d : Nat) (w : World) (ha : a < 256) (hb : b < 256) (hc : c < 256) (hd : d < 256) :
    Calls Tryz.prog 88 #[.agg (four a b c d)] w fun e w' => e = .returned (.int .i64 ((a + b * 256 + c * 65536 + d * 16777216 : Nat) : Int)) ∧ Below w.heap.size w w' := by
  go_enter Tryz.func88, Tryz.ntmps88
  go_wp2
  go_loopw [3, 4, 5] (fun n i x wr => ∃ k : Nat, k ≤ 4 ∧ x = .int .i64 k ∧ n = .int .i64 (part a b c d k : Nat) ∧ Below w.heap.size w wr ∧ Var wr w.heap.size 141 (four a b c d)) (fun _ _ x _ => 4 - (intOf x).toNat)
  case atStart => exact ⟨0, by omega, rfl, rfl, (Below.refl _ _).alloc (Nat.le_refl _) _, Var.new w _ _⟩
  case round =>
    obtain ⟨k, hk, rfl, hn, hb, h0⟩ := hrel
    obtain ⟨⟨c0, c1, c2, c3⟩, f0, f1, f2, f3⟩ := four_cells h0
    rcases k with _ | _ | _ | _ | _ | k
    · obtain ⟨m, hm⟩ : ∃ m, m = 0 := ⟨_, rfl⟩
      obtain ⟨m', hm'⟩ : ∃ m', m' = a := ⟨_, rfl⟩
      subst hn
      rw [show part a b c d 0 = m from hm.symm]
      have hor : bits .or .i64 (m : Int) (((a : Nat) : Int)) = (m' : Int) := by
        have h := or_add m a 0 (by omega) (by omega)
        rw [show ((a * 2 ^ 0 : Nat) : Int) = ((a : Nat) : Int) by omega] at h
        rw [h]
        omega
      have HM : Hid (m' = part a b c d 1) := hm'
      clear hm hm'
      go_wp2
      go_roundw
      case rel => exact ⟨1, by omega, rfl, by rw [← HM.out], hb, h0⟩
      case measure => simp [intOf]
    · obtain ⟨m, hm⟩ : ∃ m, m = a := ⟨_, rfl⟩
      obtain ⟨m', hm'⟩ : ∃ m', m' = a + b * 256 := ⟨_, rfl⟩
      subst hn
      rw [show part a b c d 1 = m from hm.symm]
      have hor : bits .or .i64 (m : Int) (((b : Nat) : Int) * 256) = (m' : Int) := by
        have h := or_add m b 8 (by omega) (by omega)
        rw [show ((b * 2 ^ 8 : Nat) : Int) = ((b : Nat) : Int) * 256 by omega] at h
        rw [h]
        omega
      have HM : Hid (m' = part a b c d 2) := hm'
      clear hm hm'
      go_wp2
      go_roundw
      case rel => exact ⟨2, by omega, rfl, by rw [← HM.out], hb, h0⟩
      case measure => simp [intOf]
    · obtain ⟨m, hm⟩ : ∃ m, m = a + b * 256 := ⟨_, rfl⟩
      obtain ⟨m', hm'⟩ : ∃ m', m' = a + b * 256 + c * 65536 := ⟨_, rfl⟩
      subst hn
      rw [show part a b c d 2 = m from hm.symm]
      have hor : bits .or .i64 (m : Int) (((c : Nat) : Int) * 65536) = (m' : Int) := by
        have h := or_add m c 16 (by omega) (by omega)
        rw [show ((c * 2 ^ 16 : Nat) : Int) = ((c : Nat) : Int) * 65536 by omega] at h
        rw [h]
        omega
      have HM : Hid (m' = part a b c d 3) := hm'
      clear hm hm'
      go_wp2
      go_roundw
      case rel => exact ⟨3, by omega, rfl, by rw [← HM.out], hb, h0⟩
      case measure => simp [intOf]
    · obtain ⟨m, hm⟩ : ∃ m, m = a + b * 256 + c * 65536 := ⟨_, rfl⟩
      obtain ⟨m', hm'⟩ : ∃ m', m' = a + b * 256 + c * 65536 + d * 16777216 := ⟨_, rfl⟩
      subst hn
      rw [show part a b c d 3 = m from hm.symm]
      have hor : bits .or .i64 (m : Int) (((d : Nat) : Int) * 16777216) = (m' : Int) := by
        have h := or_add m d 24 (by omega) (by omega)
        rw [show ((d * 2 ^ 24 : Nat) : Int) = ((d : Nat) : Int) * 16777216 by omega] at h
        rw [h]
        omega
      have HM : Hid (m' = part a b c d 4) := hm'
      clear hm hm'
      go_wp2
      go_roundw
      case rel => exact ⟨4, by omega, rfl, by rw [← HM.out], hb, h0⟩
      case measure => simp [intOf]
    · subst hn
      obtain ⟨m, hm⟩ : ∃ m, m = part a b c d 4 := ⟨_, rfl⟩
      rw [show part a b c d 4 = m from hm.symm]
      have HM := Lib.hid hm
      clear hm
      go_wp2
      go_ret
      exact ⟨by rw [HM.out]; rfl, hb⟩
    · omega
end Go.Proofs.YtpppeadmhfggkaaGreatDoor

namespace Go.Proofs.YtpppeadmhfggkaaGreatDoor
open Go.RowKit

/-- The row behind a copy of as many of the first four bytes as there are. -/
def headRow (l : List UInt8) : Array Value := four ((l.getD 0 0).toNat : Nat) ((l.getD 1 0).toNat : Nat) ((l.getD 2 0).toNat : Nat) ((l.getD 3 0).toNat : Nat)
theorem head_row (l : List UInt8) : (cells (l.take 4) ++ (four 0 0 0 0).toList.drop (min l.length 4)).toArray = headRow l := by
  rcases l with _ | ⟨a, _ | ⟨b, _ | ⟨c, _ | ⟨d, l⟩⟩⟩⟩
  · rfl
  · rfl
  · rfl
  · rfl
  · have : min (l.length + 1 + 1 + 1 + 1) 4 = 4 := by omega
    simp [cells, four, headRow, this]

theorem run_copy_head {P : Program} (w : World) (dT sT ty elem : TypeId) (g : Nat) (s : ByteArray) (t : TypeId)
    (hu : P.underlying dT = some (.slice elem)) (hs : (P.info? elem).map (·.size) = some 1) (hg : Var w g t (four 0 0 0 0)) :
    ∃ w', (Builtin.copy_ #[dT, sT] ty #[.slice (some ⟨g, 0, none⟩) 4 4, .string s]).run P w = .ok (goInt ((min s.size 4 : Nat) : Int)) w' ∧ Var w' g t (headRow (bytesOf s)) ∧ ∀ B, B ≤ g → Below B w w' := by
  obtain ⟨m, hm⟩ : ∃ m, m = min s.size 4 := ⟨_, rfl⟩
  have hlen : (cells ((bytesOf s).take 4)).length = m := by rw [cells_length, List.length_take, bytesOf_length]; omega
  have hst := run_storeCells_at P g 0 t (cells ((bytesOf s).take 4)) 0 (four 0 0 0 0) w hg (by rw [hlen]; simp [four]; omega) (cells_one _)
  have htk : List.take m (List.map (fun b : UInt8 => Value.int IntKind.u8 (b.toNat : Int)) s.data.toList) = cells ((bytesOf s).take 4) := by
    have : (bytesOf s).take 4 = (bytesOf s).take m := by
      rcases Nat.lt_or_ge s.size 4 with h | h
      · rw [List.take_of_length_le (by rw [bytesOf_length]; omega), List.take_of_length_le (by rw [bytesOf_length]; omega)]
      · rw [show m = 4 by omega]
    rw [this, cells, List.map_take]
    rfl
  rw [hlen] at hst
  simp only [Nat.add_zero, Nat.zero_add, List.take_zero, List.nil_append] at hst
  have hrow : (cells ((bytesOf s).take 4) ++ (four 0 0 0 0).toList.drop m).toArray = headRow (bytesOf s) := by
    rw [hm, ← bytesOf_length]; exact head_row _
  rw [hrow] at hst
  refine ⟨w.setRow g (headRow (bytesOf s)), ?_, setRow_heap w g _ _ t (0, 0) hg, fun B hB => below_setRow (Below.refl _ _) hB _⟩
  cases hq : P.info? elem with
  | none => simp [hq] at hs
  | some i =>
    have hmin : Nat.min s.size 4 = m := hm.symm
    simp [Builtin.copy_, run_underlying hu, Builtin.lenOf, Builtin.firstCells, sizeOf, typeInfo, hq, hmin]
    rw [htk, hst]
    simp [Result.andThen]

theorem num_lt (l : List UInt8) : (l.getD 0 0).toNat < 256 ∧ (l.getD 1 0).toNat < 256 ∧ (l.getD 2 0).toNat < 256 ∧ (l.getD 3 0).toNat < 256 :=
  ⟨UInt8.toNat_lt _, UInt8.toNat_lt _, UInt8.toNat_lt _, UInt8.toNat_lt _⟩
theorem u8_size1 : (Tryz.prog.info? 5).map (·.size) = some 1 := by kernel_rfl

set_option maxRecDepth 100000 in
set_option maxHeartbeats 400000 in
theorem head_any (s : ByteArray) (w : World) (_hm : s.size ≤ 140737488351232) : Calls Tryz.prog 82 #[.string s] w fun e w' => e = .returned (.int .i64 ((FP.fst (bytesOf s) : Nat) : Int)) ∧ Below w.heap.size w w' := by
  obtain ⟨w2, hcp, hv2, hb2⟩ := run_copy_head (P := Tryz.prog) (w.alloc (.cells (four 0 0 0 0) 141)) 99 9 3 5 w.heap.size s 141 Tryz.underlying99 u8_size1 (Var.new w _ _)
  have hb2' : Below w.heap.size w w2 := ((Below.refl _ _).alloc (Nat.le_refl _) _).trans (hb2 _ (Nat.le_refl _))
  obtain ⟨l, hl⟩ : ∃ l, l = bytesOf s := ⟨_, rfl⟩
  obtain ⟨k0, k1, k2, k3⟩ := num_lt l
  rw [← hl] at hv2 ⊢
  obtain ⟨⟨c0, c1, c2, c3⟩, f0, f1, f2, f3⟩ := four_cells hv2
  obtain ⟨a0, ha0⟩ : ∃ a, a = (l.getD 0 0).toNat := ⟨_, rfl⟩
  obtain ⟨a1, ha1⟩ : ∃ a, a = (l.getD 1 0).toNat := ⟨_, rfl⟩
  obtain ⟨a2, ha2⟩ : ∃ a, a = (l.getD 2 0).toNat := ⟨_, rfl⟩
  obtain ⟨a3, ha3⟩ : ∃ a, a = (l.getD 3 0).toNat := ⟨_, rfl⟩
  rw [← ha0] at c0 k0
  rw [← ha1] at c1 k1
  rw [← ha2] at c2 k2
  rw [← ha3] at c3 k3
  have hnum : FP.num l = a0 + a1 * 256 + a2 * 65536 + a3 * 16777216 := by rw [ha0, ha1, ha2, ha3]; rfl
  have hsz : l.length = s.size := by rw [hl, bytesOf_length]
  obtain ⟨n, hn⟩ : ∃ n, n = a0 + a1 * 256 + a2 * 65536 + a3 * 16777216 := ⟨_, rfl⟩
  have HN := Lib.hid hn
  obtain ⟨f, hf⟩ : ∃ f, f = FP.fst l := ⟨_, rfl⟩
  rw [← hf]
  have hff : (n ≤ 1024 ∧ n + 4 ≤ s.size → f = n + 4) ∧ (1024 < n ∨ s.size < n + 4 → f = 0) := by
    rw [hf, ← hsz]
    exact ⟨fun h => by rw [FP.fst_yes (by omega) (by omega)]; omega, fun h => FP.fst_no (by omega)⟩
  have HF := Lib.hid hff
  clear hff hf hn hnum hsz ha0 ha1 ha2 ha3 hl hb2 hv2
  unfold four at hcp
  go_enter Tryz.func82, Tryz.ntmps82
  go_wp2_with (with_reducible refine Lib.wpList_copy_run _ rfl _ _ _ _ rfl _ _ rfl rfl hcp ?_)
  go_wp2_with fail
  refine (number_any a0 a1 a2 a3 _ k0 k1 k2 k3).mono ?_
  rintro e w3 ⟨rfl, hb3⟩
  have hb3' : Below w.heap.size w w3 := hb2'.trans (hb3.mono hb2'.size)
  rw [← HN.out]
  by_cases hx : n ≤ 1024
  · go_wp2_with fail
    refine (size_yes n _ hx).mono ?_
    rintro e w4 ⟨rfl, rfl⟩
    by_cases hy : n + 4 ≤ s.size
    · have hd : decide ((s.size : Int) < (n : Int) + 4) = false := by simp; omega
      go_wp2
      go_ret
      exact ⟨by rw [HF.out.1 ⟨hx, hy⟩]; rfl, hb3'⟩
    · have hd : decide ((s.size : Int) < (n : Int) + 4) = true := by simp; omega
      go_wp2
      go_ret
      exact ⟨by rw [HF.out.2 (by omega)]; rfl, hb3'⟩
  · go_wp2_with fail
    refine (size_no n _ (by omega)).mono ?_
    rintro e w4 ⟨rfl, rfl⟩
    go_wp2
    go_ret
    exact ⟨by rw [HF.out.2 (by omega)]; rfl, hb3'⟩

end Go.Proofs.YtpppeadmhfggkaaGreatDoor

namespace Go.Proofs.YtpppeadmhfggkaaGreatDoor
open Go.RowKit

theorem u8_size : ∀ w, (Go.sizeOf 5).run Tryz.prog w = .ok 1 w := fun w => by kernel_rfl
/-- 'b[l:h:h]' of bytes. -/
theorem cut_lhm {P : Program} {w : World} {B : Nat} {A : Option Addr} {bs : List UInt8} (hs : Seen w B A (cells bs)) (t e : TypeId) (ht : P.underlying t = some (.slice e)) (hz : ∀ w, (Go.sizeOf e).run P w = .ok 1 w) (lb c l h : Nat) (hlb : lb = bs.length) (hl : l ≤ h) (hh : h ≤ lb) (hc : lb ≤ c) :
    ∃ D, (∀ W, (Instr.slice t (.slice A lb c) (some (.int .i64 (l : Int))) (some (.int .i64 (h : Int))) (some (.int .i64 (h : Int)))).run P W = .ok (.slice D (h - l) (h - l)) W) ∧ Seen w B D (cells ((bs.drop l).take (h - l))) := by
  refine ⟨if h = l then A else A.map (·.add (l * 1)), fun W => ?_, ?_⟩
  · have ht' : P.underlying t = some (.slice (P.elem t)) := by simp [Program.elem, ht]
    have he : P.elem t = e := by simp [Program.elem, ht]
    rw [run_slice_lhm W t _ _ _ ht' .i64 .i64 .i64 _ _ _ (by omega) (by omega) (by omega) (by omega), he, hz]
    simp [Result.andThen, sliced]
  · by_cases hE : h = l
    · rw [hE, Nat.sub_self, List.take_zero]; exact Seen.nil _ _ _
    · have := hs.cut (l := l) (h := h) (c := c) hl (by rw [cells_length]; omega) (by rw [cells_length]; omega)
      rw [if_neg (by omega), ← cells_drop, ← cells_take] at this
      rw [if_neg hE]
      exact this

set_option maxRecDepth 100000 in
theorem first_no (s : ByteArray) (w : World) (hm : s.size ≤ 140737488351232) (h : FP.fst (bytesOf s) = 0) : Calls Tryz.prog 76 #[.string s] w fun e w' => e = .returned (.tuple #[.string ByteArray.empty, .int .i64 0, .bool false]) ∧ Below w.heap.size w w' := by
  have HH := Lib.hid h
  clear h
  go_enter Tryz.func76, Tryz.ntmps76
  go_wp2_with fail
  refine (head_any s _ hm).mono ?_
  rw [HH.out]
  rintro e w1 ⟨rfl, hb⟩
  go_wp2
  refine bodyPost_ret (results_tmp3 rfl _ _ _) rfl ?_
  exact ⟨rfl, hb⟩

set_option maxRecDepth 100000 in
set_option maxHeartbeats 400000 in
theorem first_yes (s : ByteArray) (w : World) (hm : s.size ≤ 140737488351232) (f : Nat) (hf : f = FP.fst (bytesOf s)) (h : FP.fst (bytesOf s) ≠ 0) :
    Calls Tryz.prog 76 #[.string s] w fun e w' => e = .returned (.tuple #[.string (str (FP.load (bytesOf s))), .int .i64 (f : Int), .bool true]) ∧ Below w.heap.size w w' := by
  have h4 : 4 ≤ f := by rw [hf]; exact FP.fst_four h
  have hle : f ≤ s.size := by rw [hf, ← bytesOf_length]; exact FP.fst_le _
  have hmost : f ≤ 1028 := by rw [hf]; exact FP.fst_most _
  have hL : FP.load (bytesOf s) = ((bytesOf (s.extract 0 f)).drop 4).take (f - 4) := by
    rw [bytesOf_extract, List.drop_zero, Nat.sub_zero, FP.load, ← hf]
    exact (List.take_of_length_le (by rw [List.length_drop, List.length_take]; omega)).symm
  have hne : ((f : Int) == 0) = false := by simp; omega
  have hcv := conv_eq (s.extract 0 f)
  have hsz := extract_size s 0 f (by omega) hle
  rw [Nat.sub_zero] at hsz
  have HSZ : Hid (f = (bytesOf (s.extract 0 f)).length) := by show _ = _; rw [bytesOf_length, hsz]
  rw [hsz] at hcv
  have HF := Lib.hid hf
  have HL := Lib.hid hL
  clear hf hsz h hL
  go_enter Tryz.func76, Tryz.ntmps76
  go_wp2_with fail
  refine (head_any s _ hm).mono ?_
  rw [← HF.out]
  rintro e w1 ⟨rfl, hb⟩
  have hsn := conv_seen w1 (s.extract 0 f) 5
  have hbw := conv_below w1 (s.extract 0 f) 5
  have hcap := grownCap_ge w1 f 0 5
  obtain ⟨cp, hcp⟩ : ∃ cp, cp = grownCap w1 f 0 5 := ⟨_, rfl⟩
  have hcv1 := hcv w1
  rw [← hcp] at hcv1 hcap
  obtain ⟨D, hcut, hsD⟩ := cut_lhm (P := Tryz.prog) hsn 99 5 Tryz.underlying99 u8_size f cp 4 f HSZ.out h4 (Nat.le_refl _) hcap
  have hcut4 : ∀ W, (Instr.slice 99 (.slice (some ⟨w1.heap.size, 0, none⟩) f cp) (some (.int .i64 4)) (some (.int .i64 (f : Int))) (some (.int .i64 (f : Int)))).run Tryz.prog W = .ok (.slice D (f - 4) (f - 4)) W := hcut
  have hst := str_now (P := Tryz.prog) hsD 99 9 5 (f - 4) (f - 4) (by rw [List.length_take, List.length_drop, ← HSZ.out]; omega) Tryz.underlying99 Tryz.underlying5 Tryz.underlying9
  rw [← HL.out] at hst
  clear hcv hcut hsD hsn hcap hcp
  go_wp2
  refine bodyPost_ret (results_tmp3 rfl _ _ _) rfl ?_
  exact ⟨rfl, hb.trans (hbw.mono hb.size)⟩
end Go.Proofs.YtpppeadmhfggkaaGreatDoor

namespace Go.Proofs.YtpppeadmhfggkaaGreatDoor
open Go.RowKit Go.Shelf
attribute [local go_sem] Oper.semAt_some

/-- A load, and where its frame ends. -/
abbrev Fr := { x : List UInt8 × Nat // x.2 ≤ 1000000 }
/-- The loads that have come. -/
def loads (pre : List Fr) : List (List UInt8) := pre.map fun x => x.1.1
/-- Where the last one ends. -/
def stop (pre : List Fr) : Nat := (pre.getLast?.map fun x => x.1.2).getD 0
theorem loads_snoc (pre : List Fr) (x : Fr) : loads (pre ++ [x]) = loads pre ++ [x.1.1] := by simp [loads]
theorem loads_length (pre : List Fr) : (loads pre).length = pre.length := by simp [loads]
theorem stop_snoc (pre : List Fr) (x : Fr) : stop (pre ++ [x]) = x.1.2 := by simp [stop]
/-- All have come. -/
def Came (l : List UInt8) (ys : List Fr) : Prop := loads ys = FP.rows l ∧ stop ys + FP.torn l = l.length

set_option maxRecDepth 100000 in
set_option maxHeartbeats 2000000 in
theorem frames1_in (n : Nat) (hn : 1 ≤ n) (l Bn : Nat) (s : ByteArray) (hs : s.size ≤ 1000000) (Kp : World → World → Prop) (J Jx : List Fr → World → Prop)
    (hJ : ∀ pre A B, J pre A → Below A.heap.size A B → J pre B)
    (hKp : ∀ A B, Kp A B → Boxed A Bn 9 (.string s) → Boxed B Bn 9 (.string s))
    (hY : ∀ pre x W, J pre W → pre.length < s.size + 1 → YieldAt Fence.wide (n - 1) Tryz.prog l #[.string (str x.1.1), .int .i64 (x.1.2 : Int)] W fun e W' =>
      (e = .returned (.bool true) ∧ J (pre ++ [x]) W' ∧ Kp W W') ∨ (e = .returned (.bool false) ∧ Jx (pre ++ [x]) W'))
    (W : World) (hB : Boxed W Bn 9 (.string s)) (h0 : J [] W) :
    CallsIn Fence.wide n Tryz.prog 75 #[.func (.yield l) #[] #[], .pointer (some ⟨Bn, 0, none⟩)] W fun e W' => (∃ v, e = .returned v) ∧
      ((∃ ys, Came (bytesOf s) ys ∧ J ys W') ∨ (∃ pre, True ∧ Jx pre W')) := by
  refine callsIn_of_wp Tryz.func75 rfl trivial ?_ rfl
  simp only [Tryz.ntmps75, List.size_toArray, List.length_cons, List.length_nil, Nat.reduceAdd, Nat.reduceSub, Array.replicate_succ, Array.replicate_zero, List.push_toArray, List.append_toArray, List.nil_append, List.cons_append]
  gi_wp2
  gi_loopw [3] (fun i wr => ∃ (pre : List Fr) (p : Nat), i = .int .i64 (p : Int) ∧ p ≤ s.size ∧ FP.At (bytesOf s) (loads pre) p ∧ stop pre = p ∧ J pre wr ∧ Boxed wr Bn 9 (.string s))
    (fun i _ => s.size - (intOf i).toNat)
  case atStart => exact ⟨[], 0, rfl, by omega, FP.At.start _, rfl, h0, hB⟩
  case round =>
    obtain ⟨pre, p, rfl, hp, hat, hst, hJs, hBx⟩ := hrel
    have hc := hBx.cell
    have hlen : pre.length < s.size + 1 := by
      have := hat.count
      rw [loads_length, bytesOf_length] at this
      omega
    have hx := bytesOf_extract s p s.size
    rw [List.take_of_length_le (by rw [List.length_drop, bytesOf_length]; omega)] at hx
    have hsz := extract_size s p s.size hp (Nat.le_refl _)
    have HX := Lib.hid hx
    have HAT := Lib.hid hat
    have HST := Lib.hid hst
    clear hx hat hst
    by_cases hf : FP.fst ((bytesOf s).drop p) = 0
    · have HF := Lib.hid hf
      clear hf
      gi_wp2_with (refine ⟨trivial, ?_⟩; gi_at_call 76; refine (callsIn_wide.2 (first_no (s.extract p s.size) _ (by omega) (by rw [HX.out]; exact HF.out))).mono ?_; rintro e w1 ⟨rfl, hb1⟩)
      refine ⟨fun _ h => (by cases h), ?_⟩
      gi_wp2
      refine bodyPost_ret (results_none rfl _ _ _) rfl ?_
      refine ⟨⟨_, rfl⟩, .inl ⟨pre, ?_, hJ _ _ _ hJs hb1⟩⟩
      have hd := HAT.out.done HF.out
      refine ⟨hd.1.symm, ?_⟩
      rw [hd.2, HST.out, bytesOf_length]
      omega
    · have HF := Lib.hid hf
      clear hf
      have hle := FP.fst_le ((bytesOf s).drop p)
      rw [List.length_drop, bytesOf_length] at hle
      have h4 := FP.fst_four HF.out
      obtain ⟨f, hff⟩ : ∃ f, f = FP.fst ((bytesOf s).drop p) := ⟨_, rfl⟩
      rw [← hff] at hle h4
      obtain ⟨ld, hld⟩ : ∃ ld, ld = FP.load ((bytesOf s).drop p) := ⟨_, rfl⟩
      have HFF := Lib.hid hff
      have HLD := Lib.hid hld
      clear hff hld
      have hpf : p + f ≤ 1000000 := by omega
      have hfst := fun w => first_yes (s.extract p s.size) w (by omega) f (by rw [HX.out]; exact HFF.out) (by rw [HX.out]; exact HF.out)
      rw [HX.out, ← HLD.out] at hfst
      have HFST := Lib.hid hfst
      clear hfst
      gi_wp2_with fail
      refine ⟨trivial, ?_⟩
      refine (callsIn_wide.2 (HFST.out _)).mono ?_
      rintro e w1 ⟨rfl, hb1⟩
      obtain ⟨fn, tmps, assign, body, hy, hR⟩ := hY pre ⟨(ld, p + f), hpf⟩ w1 (hJ _ _ _ hJs hb1) hlen
      have hpc : ((p + f : Nat) : Int) = (p : Int) + (f : Int) := by omega
      dsimp only at hy
      rw [hpc] at hy
      have HP := Lib.hid hpc
      clear hpc
      have hB1 : Boxed w1 Bn 9 (.string s) := (hb1.block Bn hBx.lt).trans hBx
      gi_wp2
      refine hR.mono ?_
      rintro e W3 (⟨rfl, hJ3, hk3⟩ | ⟨rfl, hJx3⟩)
      · gi_wp2
        go_roundw
        case rel =>
          refine ⟨_, p + f, by rw [HP.out], by omega, ?_, ?_, hJ3, hKp _ _ hk3 hB1⟩
          · rw [loads_snoc]
            have := HAT.out.step HF.out
            rw [← HLD.out, ← HFF.out] at this
            exact this
          · rw [stop_snoc]
        case measure => simp [intOf]; omega
      · gi_wp2
        refine bodyPost_ret (results_none rfl _ _ _) rfl ?_
        exact ⟨⟨_, rfl⟩, .inr ⟨_, trivial, hJx3⟩⟩

/-- frames(b): the bytes are boxed; the function value captures the box. -/
theorem frames_in (n : Nat) (s : ByteArray) (w : World) :
    CallsIn Fence.wide n Tryz.prog 61 #[.string s] w fun e w' => e = .returned (.func (.func 75) #[] #[.pointer (some ⟨w.heap.size, 0, none⟩)]) ∧ w' = w.alloc (.cells #[.string s] 9) := by
  refine callsIn_of_wp Tryz.func61 rfl trivial ?_ rfl
  simp only [Tryz.ntmps61, List.size_toArray, List.length_cons, List.length_nil, Nat.reduceAdd, Nat.reduceSub, Array.replicate_succ, Array.replicate_zero, List.push_toArray, List.append_toArray, List.nil_append, List.cons_append]
  gi_wp2
  go_ret
  exact ⟨rfl, rfl⟩

/-- .. which hands over all frames with which the bytes begin, whatever a round does that keeps the box. -/
theorem frames_stops (n : Nat) (hn : 1 ≤ n) (Bn : Nat) (s : ByteArray) (hs : s.size ≤ 1000000) (Kp : World → World → Prop) (hKp : ∀ A B, Kp A B → Boxed A Bn 9 (.string s) → Boxed B Bn 9 (.string s))
    (w : World) (hB : Boxed w Bn 9 (.string s)) :
    SeqStopsK Fence.wide n Tryz.prog 75 #[.pointer (some ⟨Bn, 0, none⟩)] (fun x : Fr => #[.string (str x.1.1), .int .i64 (x.1.2 : Int)]) Kp (Came (bytesOf s)) (fun _ => True) (s.size + 1) w := fun l J Jx W hW hJ _ hY h0 =>
  frames1_in n hn l Bn s hs Kp J Jx (fun pre A B hA hAB => hJ pre A B none hA (grown_of_below hAB) (fun r e => by cases e)) hKp hY W ((hW.block Bn hB.lt).trans hB) h0
end Go.Proofs.YtpppeadmhfggkaaGreatDoor

namespace Go.Proofs.YtpppeadmhfggkaaGreatDoor
open Go.RowKit Go.Shelf
attribute [local go_sem] Oper.semAt_some

/-- Of the blocks below base all but those of S are as they were. -/
structure Stays (base : Nat) (S : List Nat) (a b : World) : Prop where
  os : b.os = a.os
  tape : b.tape = a.tape
  output : b.output = a.output
  size : a.heap.size ≤ b.heap.size
  block : ∀ k, k < base → k ∉ S → b.heap[k]? = a.heap[k]?
section
variable {base n₀ : Nat} {S : List Nat} {a b c : World}
theorem Stays.refl (base : Nat) (S : List Nat) (a : World) : Stays base S a a := ⟨rfl, rfl, rfl, Nat.le_refl _, fun _ _ _ => rfl⟩
theorem Stays.trans (h : Stays base S a b) (k : Stays base S b c) : Stays base S a c :=
  ⟨k.os.trans h.os, k.tape.trans h.tape, k.output.trans h.output, Nat.le_trans h.size k.size, fun i hi hs => (k.block i hi hs).trans (h.block i hi hs)⟩
theorem Stays.of_below (h : Below base a b) : Stays base S a b := ⟨h.os, h.tape, h.output, h.size, fun i hi _ => h.block i hi⟩
theorem Stays.setCell (h : Stays base S a b) {p : Addr} (hp : p.block ∈ S) (u : Value) : Stays base S a (b.setCell p u) :=
  h.trans ⟨rfl, rfl, rfl, by simp [World.setCell], fun k _ hk => Below.heap_setCell _ _ _ _ (fun e => hk (by rw [e]; exact hp))⟩
theorem Stays.grown (h : Stays base S a b) {row : Option Nat} (hb : base ≤ a.heap.size) (hg : b.grownBy c row) (hr : ∀ r, row = some r → base ≤ r) : Stays base S a c :=
  h.trans ⟨hg.os, hg.tape, hg.output, hg.size, fun k hk _ => hg.block k (by have := h.size; omega) (fun e => by have := hr k e.symm; omega)⟩
theorem Stays.below (h : Stays base S a b) (hn : n₀ ≤ base) (hs : ∀ x ∈ S, n₀ ≤ x) : Below n₀ a b :=
  ⟨h.os, h.tape, h.output, h.size, fun k hk => h.block k (by omega) (fun hm => by have := hs k hm; omega)⟩
theorem Stays.boxed (h : Stays base S a b) {B : Nat} {t : TypeId} {v : Value} (hB : Boxed a B t v) (hl : B < base) (hn : B ∉ S) : Boxed b B t v := (h.block B hl hn).trans hB
theorem staysK_t (h : Stays base S a b) (k : Stays base S b c) : Stays base S a c := h.trans k
theorem staysK_b {w : World} (hb : base ≤ w.heap.size) (W : World) (l : Nat) (o o' : Obj) (hl : w.heap.size ≤ l) (h : W.heap[l]? = some o) (_ : o.isCells = false) (_ : o.isWalk = false) : Stays base S W (W.putObj l o') :=
  (Stays.refl base S W).grown (by have := (Array.getElem?_eq_some_iff.1 h).1; omega) (grownBy_putObj' W l o') (fun r e => by cases e; omega)
end

end Go.Proofs.YtpppeadmhfggkaaGreatDoor

namespace Go.Proofs.YtpppeadmhfggkaaGreatDoor
open Go.RowKit Go.Shelf
attribute [local go_sem] Oper.semAt_some

/-- What is no cells is not an owned slice's row. -/
theorem own_cells {W : World} {base k g : Nat} {e : TypeId} {v : Value} {xs : List Value} {o : Obj} (h : W.ownsRow base e 1 v k xs) (hg : W.heap[g]? = some o) (ho : o.isCells = false) : some g ≠ v.ownBlock := by
  intro he
  obtain ⟨_, h0⟩ := h
  rcases h0 with ⟨hv, _⟩ | ⟨b, cap, cur, hv, _, hb, _⟩
  · subst hv
    cases he
  · subst hv
    injection he with he
    subst he
    rw [hb] at hg
    injection hg with hg
    subst hg
    cases ho
/-- An owned slice's row stands where only what is no cells is turned. -/
theorem own_turned {W W' : World} {base k : Nat} {e : TypeId} {v : Value} {xs : List Value} {row : Option Nat} (h : W.ownsRow base e 1 v k xs) (hg : W.grownBy W' row) (hr : ∀ r, row = some r → ∃ o : Obj, W.heap[r]? = some o ∧ o.isCells = false) : W'.ownsRow base e 1 v k xs := by
  rcases row with _ | r
  · exact own_below h ⟨hg.os, hg.tape, hg.output, hg.size, fun i hi => hg.block i hi (by simp)⟩
  · obtain ⟨o, ho, hc⟩ := hr r rfl
    exact h.kept hg (.inr (own_cells h ho hc).symm)
/-- Behind an append to a slice whose row lies at or beyond base: whatever lay below base is as it was, and so is whatever is no cells. -/
theorem appended_low {W w1 : World} {base : Nat} {e : TypeId} {v : Value} {k : Nat} {xs : List Value} {tmp : Obj} (hrow : W.ownsRow base e 1 v k xs) (hb : base ≤ W.heap.size) (hgrow : (W.alloc tmp).grownBy w1 v.ownBlock) :
    Below base W w1 ∧ KeepsOthers W w1 := by
  have hz := hgrow.size
  rw [World.size_alloc] at hz
  refine ⟨((Below.refl base W).alloc hb tmp).grown hgrow (by simp; omega) fun j ej => (hrow.lt j ej).1, by omega, fun g o hg ho => ?_⟩
  have hlt := heap_lt hg
  rw [hgrow.block g (by rw [World.size_alloc]; omega) (own_cells hrow hg ho), Below.heap_alloc W tmp g hlt, hg]
theorem own_low {W : World} {base e k B : Nat} {v u : Value} {xs : List Value} (h : W.ownsRow base e 1 v k xs) (hB : B < base) : (W.setCell ⟨B, 0, none⟩ u).ownsRow base e 1 v k xs :=
  h.kept (grownBy_setCell' W B u) (.inr (fun e' => by have := (h.lt B e').1; omega))

set_option maxRecDepth 100000 in
set_option maxHeartbeats 4000000 in
theorem all_in (s : ByteArray) (hs : s.size ≤ 1000000) (w : World) :
    CallsIn Fence.wide 7 Tryz.prog 35 #[.string s] w fun e W' => ∃ A c, e = .returned (.tuple #[.slice A (FP.rows (bytesOf s)).length c, .int .i64 (FP.torn (bytesOf s) : Nat)]) ∧
      Seen W' W'.heap.size A (strs (FP.rows (bytesOf s))) ∧ (FP.rows (bytesOf s)).length ≤ c ∧ Below w.heap.size w W' := by
  obtain ⟨i0, hi, hz0, hz1, hz2⟩ := info_parts str_info
  refine callsIn_of_wp_marks Tryz.func35 rfl trivial ?_ rfl
  simp only [Tryz.ntmps35, List.size_toArray, List.length_cons, List.length_nil, Nat.reduceAdd, Nat.reduceSub, Array.replicate_succ, Array.replicate_zero, List.push_toArray, List.append_toArray, List.nil_append, List.cons_append]
  gi_wp2
  refine ⟨trivial, ?_⟩
  refine (frames_in 6 _ _).mono ?_
  rintro e w' ⟨rfl, rfl⟩
  gi_wp2
  obtain ⟨W0, hW0⟩ : ∃ W0, W0 = (((w.alloc (.cells #[.string s] 9)).alloc (.cells #[.slice none 0 0] 40)).alloc (.cells #[.int .i64 (s.size : Int)] 3)).alloc (.cells #[.string s] 9) := ⟨_, rfl⟩
  have hsz : W0.heap.size = w.heap.size + 1 + 1 + 1 + 1 := by rw [hW0]; simp
  have hB0 : Below w.heap.size w W0 := by rw [hW0]; exact ((((Below.refl _ w).alloc (Nat.le_refl _) _).alloc (by simp) _).alloc (by simp; omega) _).alloc (by simp; omega) _
  have b0 : Boxed W0 w.heap.size 9 (.string s) := by rw [hW0]; exact (((Boxed.new w _ _).alloc _).alloc _).alloc _
  have b1 : Boxed W0 (w.heap.size + 1) 40 (.slice none 0 0) := by
    have h := Boxed.new (w.alloc (.cells #[.string s] 9)) 40 (.slice none 0 0)
    rw [World.size_alloc] at h
    rw [hW0]; exact (h.alloc _).alloc _
  have b2 : Boxed W0 (w.heap.size + 1 + 1) 3 (.int .i64 (s.size : Int)) := by
    have h := Boxed.new ((w.alloc (.cells #[.string s] 9)).alloc (.cells #[.slice none 0 0] 40)) 3 (.int .i64 (s.size : Int))
    rw [World.size_alloc, World.size_alloc] at h
    rw [hW0]; exact h.alloc _
  have b3 : Boxed W0 (w.heap.size + 1 + 1 + 1) 9 (.string s) := by
    have h := Boxed.new (((w.alloc (.cells #[.string s] 9)).alloc (.cells #[.slice none 0 0] 40)).alloc (.cells #[.int .i64 (s.size : Int)] 3)) 9 (.string s)
    rw [World.size_alloc, World.size_alloc, World.size_alloc] at h
    rw [hW0]; exact h
  rw [← hW0]
  clear hW0
  refine wpIn_rangeFunc_ownF rfl (by omega) (gf := 75) (lb := #[.pointer (some ⟨w.heap.size + 1 + 1 + 1, 0, none⟩)]) rfl trivial (enters_of Tryz.func75 (by kernel_rfl) rfl)
    (frames_stops 6 (by omega) (w.heap.size + 1 + 1 + 1) s hs (Stays W0.heap.size [w.heap.size + 1, w.heap.size + 1 + 1]) (fun A B h hb => h.boxed hb (by omega) (by simp; omega)) _ b3) staysK_t (staysK_b (Nat.le_refl _)) (Below.refl _ _) (fun _ => rfl)
    (fun pre W => (∃ v, Boxed W (w.heap.size + 1) 40 v ∧ W.ownsRow W0.heap.size 9 1 v pre.length (strs (loads pre))) ∧ Boxed W (w.heap.size + 1 + 1) 3 (.int .i64 ((s.size : Int) - (stop pre : Nat))) ∧ Stays W0.heap.size [w.heap.size + 1, w.heap.size + 1 + 1] W0 W)
    (fun _ _ _ => False)
    (fun pre A B row hs hg hr => by
      obtain ⟨⟨v, hv, hrow⟩, ht, hst⟩ := hs
      exact ⟨⟨v, hv.kept hg (fun e => by have := (hr _ e.symm).1; omega), own_turned hrow hg (fun r e => (hr r e).2)⟩, ht.kept hg (fun e => by have := (hr _ e.symm).1; omega), hst.grown (Nat.le_refl _) hg (fun r e => (hr r e).1)⟩)
    (fun _ _ _ _ _ hs _ _ => hs)
    ⟨⟨_, b1, World.ownsRow_nil _ _ _ _⟩, by simpa [stop] using b2, Stays.refl _ _ _⟩
    (fun x => { tmps := #[.string s, .pointer (some ⟨w.heap.size, 0, none⟩), .pointer (some ⟨w.heap.size + 1, 0, none⟩), .pointer (some ⟨w.heap.size + 1 + 1, 0, none⟩), .string (str x.1.1), .int .i64 (x.1.2 : Int), .string s, .int .i64 (s.size : Int), .string s, .func (.func 75) #[] #[.pointer (some ⟨w.heap.size + 1 + 1 + 1, 0, none⟩)], .string (str x.1.1), .int .i64 (x.1.2 : Int), undef, undef, undef, undef, undef, undef, undef, undef, undef, undef], defers := [] }) ?assign ?body ?done ?stop
  case assign =>
    intro l x W K hK
    gi_wp2
    exact hK
  case body =>
    rintro l pre x W ⟨⟨v, hv, hrow⟩, ht, hst⟩ hlt
    have hc := hv.cell
    have hx2 := x.2
    gi_wp2_with (gi_at_builtin; refine wpListIn_append_own _ rfl _ _ 40 rfl W0.heap.size 9 i0 (.string ByteArray.empty) 1 16 Tryz.underlying40 hi hz0 hz1 hz2 rfl (by decide) _ _ _ rfl (hrow.alloc _) ⟨W.heap.size, 0, none⟩ 1 1 [.string (str x.1.1)] rfl rfl (cell_one_new _ _ _) (by simp [Value.oneCell']) (by unfold maxLen; omega) (by omega) (by have := hst.size; simp; omega) ?_)
    intro v' w1 hown' hgrow _
    obtain ⟨g', cap', rfl⟩ := ownsRow_succ hown'
    have hbW := hst.size
    obtain ⟨hlow, hko⟩ := appended_low hrow hbW hgrow
    have hv1 : Boxed w1 (w.heap.size + 1) 40 v := (hlow.block _ (by omega)).trans hv
    have ht1 : Boxed w1 (w.heap.size + 1 + 1) 3 _ := (hlow.block _ (by omega)).trans ht
    have h01 : Boxed w1 w.heap.size 9 (.string s) := (hlow.block _ (by omega)).trans (hst.boxed b0 (by omega) (by simp; omega))
    have c0 := h01.cell
    have c1 := hv1.cell
    have c2 := ht1.cell
    have f1 := hv1.frozen
    have f2 := ht1.frozen
    clear hc hgrow
    gi_wp2
    have hv2 := hv1.set (.slice (some ⟨g', 0, none⟩) (pre.length + 1) cap')
    have ht2 := ht1.kept (grownBy_setCell' w1 (w.heap.size + 1) (.slice (some ⟨g', 0, none⟩) (pre.length + 1) cap')) (by simp)
    refine ⟨(hko.trans (KeepsOthers.setCell _ _ _)).trans (KeepsOthers.setCell _ _ _), ((Stays.of_below hlow).setCell (by simp) _).setCell (by simp) _, ⟨⟨_, hv2.kept (grownBy_setCell' _ _ _) (by simp), ?_⟩, ?_, (((hst.trans (Stays.of_below hlow)).setCell (by simp) _).setCell (by simp) _)⟩⟩
    · rw [loads_snoc, strs_append, List.length_append]
      rw [← hsz] at hown'
      exact own_low (own_low (show w1.ownsRow W0.heap.size 9 1 _ (pre.length + [x].length) (strs (loads pre) ++ strs [x.1.1]) from hown') (by omega)) (by omega)
    · rw [stop_snoc]
      exact ht2.set _
  case done =>
    rintro D ys W hD ⟨hy1, hy2⟩ ⟨⟨v, hv, hrow⟩, ht, hst⟩ hK
    obtain ⟨A, c, rfl, _, _⟩ := own_form hrow
    have hT : (s.size : Int) - (stop ys : Nat) = (FP.torn (bytesOf s) : Nat) := by rw [bytesOf_length] at hy2; omega
    rw [hT] at ht
    have hyl : ys.length = (FP.rows (bytesOf s)).length := by rw [← hy1, loads_length]
    rw [hy1, hyl] at hrow
    rw [hyl] at hv
    clear hy1 hy2 hT hyl
    obtain ⟨k, hk⟩ : ∃ k, k = (FP.rows (bytesOf s)).length := ⟨_, rfl⟩
    obtain ⟨t, htn⟩ : ∃ t, t = FP.torn (bytesOf s) := ⟨_, rfl⟩
    rw [← hk] at hv hrow
    rw [← htn] at ht
    have HK := Lib.hid hk
    have HT := Lib.hid htn
    clear hk htn
    have c1 := hv.cell
    have c2 := ht.cell
    have f1 := hv.frozen
    have f2 := ht.frozen
    gi_wp2
    gi_region
    all_goals gi_wp2
    have u1 := (hv.set (.slice A k c)).other (B' := w.heap.size + 1 + 1) (by omega) (.int .i64 (t : Int))
    have u2 := (ht.other (B' := w.heap.size + 1) (by omega) (.slice A k c)).set (.int .i64 (t : Int))
    have hr2 := own_low (B := w.heap.size + 1 + 1) (u := .int .i64 (t : Int)) (own_low (B := w.heap.size + 1) (u := .slice A k c) hrow (by omega)) (by omega)
    have hs2 := (hst.setCell (p := ⟨w.heap.size + 1, 0, none⟩) (by simp) (.slice A k c)).setCell (p := ⟨w.heap.size + 1 + 1, 0, none⟩) (by simp) (.int .i64 (t : Int))
    have hK2 := ((KeepsOthers.setCell W ⟨w.heap.size + 1, 0, none⟩ (.slice A k c)).trans (KeepsOthers.setCell _ ⟨w.heap.size + 1 + 1, 0, none⟩ (.int .i64 (t : Int)))).same D _ hK rfl
    obtain ⟨W2, hW2⟩ : ∃ W2, W2 = ((W.setCell ⟨w.heap.size + 1, 0, none⟩ (.slice A k c)).setCell ⟨w.heap.size + 1 + 1, 0, none⟩ (.int .i64 (t : Int))) := ⟨_, rfl⟩
    rw [← hW2] at u1 u2 hr2 hs2 hK2 ⊢
    clear hW2 hv ht hrow hst hK c1 c2 f1 f2
    have hKd : W2.drew.heap[D]? = some (.deferred (some [])) := hK2
    refine ⟨by simp, .inl ⟨_, _, rfl, run_takeDeferred hKd, ?_⟩⟩
    have c1 : (W2.drew.putObj D (.deferred none)).cell? ⟨w.heap.size + 1, 0, none⟩ = some (.slice A k c) := cell_kept (W := W2.drew) u1.cell (grownBy_putObj' _ D (.deferred none)) (fun r e => by cases e; exact ⟨_, hKd, rfl⟩)
    have c2 : (W2.drew.putObj D (.deferred none)).cell? ⟨w.heap.size + 1 + 1, 0, none⟩ = some (.int .i64 (t : Int)) := cell_kept (W := W2.drew) u2.cell (grownBy_putObj' _ D (.deferred none)) (fun r e => by cases e; exact ⟨_, hKd, rfl⟩)
    refine ⟨.tuple #[.slice A k c, .int .i64 (t : Int)], ?_, A, c, by rw [HK.out, HT.out], ?_, ?_, ?_⟩
    · simp [results, Tryz.f35, go_sem, c1, c2]
    · have hr3 : W2.drew.ownsRow W0.heap.size 9 1 (.slice A k c) k (strs (FP.rows (bytesOf s))) := hr2
      exact Seen.of_own (ownsRow_putObj hr3 _ hKd rfl)
    · obtain ⟨A', c', he, _, hle⟩ := own_form hr2
      injection he with h1 h2 h3
      rw [← HK.out, h3]
      exact hle
    · exact ((hB0.trans (hs2.below (by omega) (by simp; omega))).drew).trans (belowK_b (w := w) (Nat.le_refl _) W2.drew D _ _ (by omega) hKd rfl rfl)
  case stop =>
    rintro D c pre W _ _ h _
    exact h.elim
theorem all_any (s : ByteArray) (hs : s.size ≤ 1000000) (w : World) :
    Calls Tryz.prog 35 #[.string s] w fun e W' => ∃ A c, e = .returned (.tuple #[.slice A (FP.rows (bytesOf s)).length c, .int .i64 (FP.torn (bytesOf s) : Nat)]) ∧
      Seen W' W'.heap.size A (strs (FP.rows (bytesOf s))) ∧ (FP.rows (bytesOf s)).length ≤ c ∧ Below w.heap.size w W' := callsIn_wide.1 (all_in s hs w)
end Go.Proofs.YtpppeadmhfggkaaGreatDoor
