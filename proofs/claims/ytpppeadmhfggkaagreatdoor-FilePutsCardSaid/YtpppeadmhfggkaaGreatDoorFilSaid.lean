/-
  What the laws ask of a fault (told): the texts of error numbers, strings.Join (out of the library's law, at this program's numbers), the fault's text, errors.As at a fault's own type. Conditions: the number is one of those that a disk's operation returns; of errors.As: the one package variable of errors holds what the program's text lays (Glob).
-/
import Derived.Test.YtpppeadmhfggkaaGreatDoorFilAtt
import Derived.Test.YtpppeadmhfggkaaGreatDoorFilStr
import Derived.Shelf.Strings.OnBuilder
namespace Go.Proofs.YtpppeadmhfggkaaGreatDoor
open Go.RowKit DP Go.Extern.Stop Go.Stop Go.Extern

/-! ### the library's law of Join, at this program's numbers -/
def renJoin : Go.Shelf.Ren := ⟨fun | 156 => 46 | 165 => 65 | 166 => 50 | 169 => 51 | 240 => 69 | 241 => 77 | 276 => 81 | 277 => 83 | n => n, fun | 31 => 40 | 9 => 9 | 3 => 3 | 4 => 4 | 0 => 0 | 20 => 20 | 72 => 101 | 76 => 105 | 70 => 98 | 37 => 99 | 75 => 30 | 127 => 133 | 164 => 84 | 5 => 5 | 80 => 65 | n => n, fun | n => n⟩
theorem laysJoin : Go.Proofs.Lays.n156 Tryz.prog renJoin := {
  mixed := by kernel_rfl
  f156 := Tryz.func46.trans (congrArg some (by kernel_rfl))
  f165 := Tryz.func65.trans (congrArg some (by kernel_rfl))
  f166 := Tryz.func50.trans (congrArg some (by kernel_rfl))
  f169 := Tryz.func51.trans (congrArg some (by kernel_rfl))
  f240 := Tryz.func69.trans (congrArg some (by kernel_rfl))
  f241 := Tryz.func77.trans (congrArg some (by kernel_rfl))
  f276 := Tryz.func81.trans (congrArg some (by kernel_rfl))
  f277 := Tryz.func83.trans (congrArg some (by kernel_rfl))
  t0 := Tryz.underlying0
  a0 := Tryz.isAgg0
  z0 := Tryz.sizeOf0
  v0 := Tryz.zeroValue0
  t3 := Tryz.underlying3
  a3 := Tryz.isAgg3
  z3 := Tryz.sizeOf3
  v3 := Tryz.zeroValue3
  t4 := Tryz.underlying4
  a4 := Tryz.isAgg4
  z4 := Tryz.sizeOf4
  v4 := Tryz.zeroValue4
  t9 := Tryz.underlying9
  a9 := Tryz.isAgg9
  z9 := Tryz.sizeOf9
  v9 := Tryz.zeroValue9
  t20 := Tryz.underlying20
  a20 := Tryz.isAgg20
  z20 := Tryz.sizeOf20
  v20 := Tryz.zeroValue20
  t31 := Tryz.underlying40
  a31 := Tryz.isAgg40
  z31 := Tryz.sizeOf40
  v31 := Tryz.zeroValue40
  t37 := Tryz.underlying99
  a37 := Tryz.isAgg99
  z37 := Tryz.sizeOf99
  v37 := Tryz.zeroValue99
  t70 := Tryz.underlying98
  a70 := Tryz.isAgg98
  z70 := Tryz.sizeOf98
  v70 := Tryz.zeroValue98
  t72 := Tryz.underlying101
  a72 := Tryz.isAgg101
  z72 := Tryz.sizeOf101
  v72 := Tryz.zeroValue101
  t75 := Tryz.underlying30
  a75 := Tryz.isAgg30
  z75 := Tryz.sizeOf30
  v75 := Tryz.zeroValue30
  t76 := Tryz.underlying105
  a76 := Tryz.isAgg105
  z76 := Tryz.sizeOf105
  v76 := Tryz.zeroValue105
  t127 := Tryz.underlying133
  a127 := Tryz.isAgg133
  z127 := Tryz.sizeOf133
  v127 := Tryz.zeroValue133
  t164 := Tryz.underlying84
  a164 := Tryz.isAgg84
  z164 := Tryz.sizeOf84
  v164 := Tryz.zeroValue84 }
theorem moreJoin : Go.Proofs.Builder.Extra Tryz.prog renJoin := {
  sizeBuilder := by kernel_rfl
  liesBuilder := by kernel_rfl
  t5 := Tryz.underlying5
  a5 := Tryz.isAgg5
  z5 := Tryz.sizeOf5
  v5 := Tryz.zeroValue5
  infoByte := by kernel_rfl
  cellsByte := by kernel_rfl
  sizeByte := by kernel_rfl
  neB5 := by decide }

/-! ### the texts of error numbers -/
/-- The text of an error number. -/
def errS (e : Int) : ByteArray := if e = 2 then ⟨#[101, 114, 114, 111, 114, 32, 50]⟩ else if e = 3 then ⟨#[101, 114, 114, 111, 114, 32, 51]⟩ else if e = 30 then ⟨#[101, 114, 114, 111, 114, 32, 51, 48]⟩ else if e = 31 then ⟨#[101, 114, 114, 111, 114, 32, 51, 49]⟩ else ⟨#[101, 114, 114, 111, 114, 32, 51, 50]⟩
def ErrNo (e : Int) : Prop := e = 2 ∨ e = 3 ∨ e = 30 ∨ e = 31 ∨ e = 32
theorem errS_size (e : Int) : (errS e).size ≤ 8 := by
  unfold errS
  repeat (first | split | decide)
set_option maxRecDepth 100000 in
set_option maxHeartbeats 400000 in
theorem said_2 (w : World) : Calls Tryz.prog 27 #[.int .i64 2] w fun r w' => r = .returned (.string ⟨#[101, 114, 114, 111, 114, 32, 50]⟩) ∧ w = w' := by
  go_enter Tryz.func27, Tryz.ntmps27
  go_wp2
  go_ret
  exact ⟨rfl, rfl⟩
set_option maxRecDepth 100000 in
set_option maxHeartbeats 400000 in
theorem said_3 (w : World) : Calls Tryz.prog 27 #[.int .i64 3] w fun r w' => r = .returned (.string ⟨#[101, 114, 114, 111, 114, 32, 51]⟩) ∧ w = w' := by
  go_enter Tryz.func27, Tryz.ntmps27
  go_wp2
  go_ret
  exact ⟨rfl, rfl⟩
set_option maxRecDepth 100000 in
set_option maxHeartbeats 400000 in
theorem said_30 (w : World) : Calls Tryz.prog 27 #[.int .i64 30] w fun r w' => r = .returned (.string ⟨#[101, 114, 114, 111, 114, 32, 51, 48]⟩) ∧ w = w' := by
  go_enter Tryz.func27, Tryz.ntmps27
  go_wp2
  go_ret
  exact ⟨rfl, rfl⟩
set_option maxRecDepth 100000 in
set_option maxHeartbeats 400000 in
theorem said_31 (w : World) : Calls Tryz.prog 27 #[.int .i64 31] w fun r w' => r = .returned (.string ⟨#[101, 114, 114, 111, 114, 32, 51, 49]⟩) ∧ w = w' := by
  go_enter Tryz.func27, Tryz.ntmps27
  go_wp2
  go_ret
  exact ⟨rfl, rfl⟩
set_option maxRecDepth 100000 in
set_option maxHeartbeats 400000 in
theorem said_32 (w : World) : Calls Tryz.prog 27 #[.int .i64 32] w fun r w' => r = .returned (.string ⟨#[101, 114, 114, 111, 114, 32, 51, 50]⟩) ∧ w = w' := by
  go_enter Tryz.func27, Tryz.ntmps27
  go_wp2
  go_ret
  exact ⟨rfl, rfl⟩
theorem said_any {e : Int} (h : ErrNo e) (w : World) : Calls Tryz.prog 27 #[.int .i64 e] w fun r w' => r = .returned (.string (errS e)) ∧ w = w' := by
  rcases h with rfl | rfl | rfl | rfl | rfl
  · exact said_2 w
  · exact said_3 w
  · exact said_30 w
  · exact said_31 w
  · exact said_32 w

/-! ### the fault's text -/
def fileS : ByteArray := ⟨#[102, 105, 108, 101]⟩
def sepS : ByteArray := ⟨#[58, 32]⟩
/-- "file: name: error n". -/
def fltS (file : ByteArray) (e : Int) : ByteArray := str (bytesOf fileS ++ (bytesOf sepS ++ (bytesOf file ++ (bytesOf sepS ++ bytesOf (errS e)))))
theorem join3 (a b c s : List UInt8) : Lib.join [a, b, c] s = a ++ (s ++ (b ++ (s ++ c))) := by
  unfold Lib.join
  simp [List.intercalate, List.intersperse]
theorem join_any (bk : Nat) (file t : ByteArray) (w : World) (hf : file.size ≤ 1000) (ht : t.size ≤ 1000) (hv : w.heap[bk]? = some (.cells #[.string fileS, .string file, .string t] 9 (0, 0))) :
    Calls Tryz.prog 46 #[.slice (some ⟨bk, 0, none⟩) 3 3, .string sepS] w fun r w' => r = .returned (.string (str (bytesOf fileS ++ (bytesOf sepS ++ (bytesOf file ++ (bytesOf sepS ++ bytesOf t)))))) ∧ Below w.heap.size w w' := by
  have hV : Var w bk 9 #[.string fileS, .string file, .string t] := hv
  have hj := join3 fileS.data.toList file.data.toList t.data.toList sepS.data.toList
  have h := Go.Proofs.Any.strings_Join laysJoin moreJoin bk 0 3 [fileS, file, t] sepS w (fun j x hx => by
    rw [Nat.zero_add]
    refine hV.cell j ?_
    rcases j with _ | _ | _ | j
    · simpa using hx
    · simpa using hx
    · simpa using hx
    · simp at hx) hV.lt (by simp) (by simp) (by
      simp only [List.map_cons, List.map_nil]
      rw [hj]
      have h1 : fileS.data.toList.length = 4 := rfl
      have h2 : sepS.data.toList.length = 2 := rfl
      have h3 : file.data.toList.length = file.size := bytesOf_length file
      have h4 : t.data.toList.length = t.size := bytesOf_length t
      simp only [List.length_append]
      omega)
  simp only [List.map_cons, List.map_nil] at h
  rw [hj] at h
  exact h
end Go.Proofs.YtpppeadmhfggkaaGreatDoor
