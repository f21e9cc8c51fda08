/-
  The contracts of slices.Equal over files and of disk.Same. No conditions.
-/
import Derived.Test.YtpppeadmhfggkaaGreatDoorDskAttB
import Derived.Laws.StructEq
namespace Go.Proofs.YtpppeadmhfggkaaGreatDoor
open Go.RowKit DP

@[go_sem] theorem file_eq (a b c d : ByteArray) (x y : Int) (w : World) : (Op.equalIn 10000 48 (.agg #[.string a, .string b, .int .i64 x]) (.agg #[.string c, .string d, .int .i64 y])).run Tryz.prog w = .ok (a.toList == c.toList && (b.toList == d.toList && x == y)) w := by
  have u1 := Tryz.underlying9
  have a1 := Tryz.isAgg9
  have z1 := Tryz.sizeOf9
  have u3 := Tryz.underlying3
  have a3 := Tryz.isAgg3
  have z3 := Tryz.sizeOf3
  have hS : Tryz.prog.underlying 48 = some (.struct (Tryz.prog.fieldsOf 48)) := by kernel_rfl
  have hp : Tryz.prog.stoodInHeld 48 = false := by kernel_rfl
  rw [show (10000 : Nat) = 9999 + 1 from rfl, run_equalIn_agg w 9999 48 _ _ hS hp]
  simp only [Program.fieldsOf, Tryz.underlying48]
  go_simp
  cases h1 : a.toList == c.toList <;> cases h2 : b.toList == d.toList <;> cases h3 : x == y <;> simp_all

end Go.Proofs.YtpppeadmhfggkaaGreatDoor
