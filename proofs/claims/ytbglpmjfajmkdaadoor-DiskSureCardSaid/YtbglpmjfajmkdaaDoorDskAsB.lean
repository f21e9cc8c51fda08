/-
  errors.As at the errors of disk: the entries that look at memory, and the contracts. Conditions: the one package variable of errors holds what the program's text lays (Glob).
-/
import Derived.Test.YtbglpmjfajmkdaaDoorDskAs
namespace Go.Proofs.YtbglpmjfajmkdaaDoor
open Go.RowKit DP Go.Extern.Stop Go.Stop Go.Extern

/-! ### the entries that look at memory -/
def nilEntry : Array Value → Sem Value := ReflectliteValue.method (ReflectliteValue.valueError "reflectlite.Value.IsNil" 0) ReflectliteValue.isNil
def elemEntry : Array Value → Sem Value := ReflectliteValue.method (ReflectliteValue.valueError "reflectlite.Value.Elem" 0) ReflectliteValue.elem
section
variable (W : World)
theorem parts_pf (a : Addr) : (ReflectliteValue.parts (rval 66 a 150)).run Tryd.prog W = .ok (some (66, a, 150)) W := by kernel_rfl
theorem parts_pe (a : Addr) : (ReflectliteValue.parts (rval 67 a 150)).run Tryd.prog W = .ok (some (67, a, 150)) W := by kernel_rfl
theorem parts_f (a : Addr) : (ReflectliteValue.parts (rval 64 a 153)).run Tryd.prog W = .ok (some (64, a, 153)) W := by kernel_rfl
theorem parts_e (a : Addr) : (ReflectliteValue.parts (rval 33 a 130)).run Tryd.prog W = .ok (some (33, a, 130)) W := by kernel_rfl
theorem parts_fv (a : Addr) : (ReflectliteValue.parts (rval 64 a 409)).run Tryd.prog W = .ok (some (64, a, 409)) W := by kernel_rfl
theorem parts_ev (a : Addr) : (ReflectliteValue.parts (rval 33 a 386)).run Tryd.prog W = .ok (some (33, a, 386)) W := by kernel_rfl
theorem el_pf : (Rtype.elem? 66).run Tryd.prog W = .ok (some 64) W := by kernel_rfl
theorem el_pe : (Rtype.elem? 67).run Tryd.prog W = .ok (some 33) W := by kernel_rfl
theorem mk_f (p : Addr) : (ReflectliteValue.mk 64 p ReflectliteValue.flagAddr).run Tryd.prog W = .ok (rval 64 p 409) W := by kernel_rfl
theorem mk_e (p : Addr) : (ReflectliteValue.mk 33 p ReflectliteValue.flagAddr).run Tryd.prog W = .ok (rval 33 p 386) W := by kernel_rfl
theorem dir_ff : (Rtype.directlyAssignable 64 64).run Tryd.prog W = .ok true W := by kernel_rfl
theorem dir_ee : (Rtype.directlyAssignable 33 33).run Tryd.prog W = .ok true W := by kernel_rfl

theorem nil_pf (a p : Addr) (ha : W.cell? a = some (.pointer (some p))) : (nilEntry #[rval 66 a 150]).run Tryd.prog W = .ok (.bool false) W := by
  show (ReflectliteValue.parts (rval 66 a 150) >>= _).run _ _ = _
  rw [Sem.run_bind, parts_pf]
  simp [ReflectliteValue.isNil, loadVar, isAgg, underlying, Tryd.underlying66, ha, Result.andThen]
theorem nil_pe (a p : Addr) (ha : W.cell? a = some (.pointer (some p))) : (nilEntry #[rval 67 a 150]).run Tryd.prog W = .ok (.bool false) W := by
  show (ReflectliteValue.parts (rval 67 a 150) >>= _).run _ _ = _
  rw [Sem.run_bind, parts_pe]
  simp [ReflectliteValue.isNil, loadVar, isAgg, underlying, Tryd.underlying67, ha, Result.andThen]
theorem elemV_pf (a p : Addr) (ha : W.cell? a = some (.pointer (some p))) : (elemEntry #[rval 66 a 150]).run Tryd.prog W = .ok (rval 64 p 409) W := by
  show (ReflectliteValue.parts (rval 66 a 150) >>= _).run _ _ = _
  rw [Sem.run_bind, parts_pf]
  simp [ReflectliteValue.elem, loadVar, isAgg, underlying, Tryd.underlying66, ha, Result.andThen, el_pf, mk_f]
theorem elemV_pe (a p : Addr) (ha : W.cell? a = some (.pointer (some p))) : (elemEntry #[rval 67 a 150]).run Tryd.prog W = .ok (rval 33 p 386) W := by
  show (ReflectliteValue.parts (rval 67 a 150) >>= _).run _ _ = _
  rw [Sem.run_bind, parts_pe]
  simp [ReflectliteValue.elem, loadVar, isAgg, underlying, Tryd.underlying67, ha, Result.andThen, el_pe, mk_e]

theorem size_f : (sizeOf 64).run Tryd.prog W = .ok 5 W := by kernel_rfl
/-- (Value).Set of an error number. -/
theorem set_e (g h : Nat) (n : Int) (o : Value) (ht : Var W g 33 #[o]) (hs : Var W h 33 #[.int .i64 n]) :
    (ReflectliteValue.set #[rval 33 ⟨g, 0, none⟩ 386, rval 33 ⟨h, 0, none⟩ 130]).run Tryd.prog W = .ok (.tuple #[]) (W.setCell ⟨g, 0, none⟩ (.int .i64 n)) := by
  have hb := hs.cell 0 rfl
  have hc := ht.cell 0 rfl
  have hf := ht.free 0
  show (ReflectliteValue.parts (rval 33 ⟨g, 0, none⟩ 386) >>= fun _ => ReflectliteValue.parts (rval 33 ⟨h, 0, none⟩ 130) >>= _).run _ _ = _
  simp only [Sem.run_bind, parts_ev, parts_e, Result.andThen]
  simp [ReflectliteValue.flagAddr, loadVar, isAgg, underlying, Tryd.underlying33, hb, Result.andThen, dir_ee, storeVar, Value.cells, storeCells, Addr.add]
  rw [run_store Tryd.prog W _ _ _ (by rfl)]
  simp [hc, hf]
/-- (Value).Set of the error of the operation at which a disk goes down. -/
theorem set_f (g h : Nat) (c0 c1 c2 c3 c4 o0 o1 o2 o3 o4 : Value) (ht : Var W g 64 #[o0, o1, o2, o3, o4]) (hs : Var W h 64 #[c0, c1, c2, c3, c4]) (h1 : ∀ u ∈ [c0, c1, c2, c3, c4], u.oneCell' = true) :
    (ReflectliteValue.set #[rval 64 ⟨g, 0, none⟩ 409, rval 64 ⟨h, 0, none⟩ 153]).run Tryd.prog W = .ok (.tuple #[]) (W.setRow g #[c0, c1, c2, c3, c4]) := by
  have hl : (loadCells ⟨h, 0, none⟩ 5).run Tryd.prog W = .ok #[c0, c1, c2, c3, c4] W := by
    refine run_loadCells_list (P := Tryd.prog) W ⟨h, 0, none⟩ [c0, c1, c2, c3, c4] (fun j v hj => ?_)
    rw [plain_add, Nat.zero_add]
    exact hs.cell j (by simpa using hj)
  have hst : (storeCells ⟨g, 0, none⟩ [c0, c1, c2, c3, c4]).run Tryd.prog W = .ok () (W.setRow g #[c0, c1, c2, c3, c4]) := by
    have := run_storeCells_at Tryd.prog g 0 64 [c0, c1, c2, c3, c4] 0 #[o0, o1, o2, o3, o4] W ht (by simp) h1
    simpa using this
  show (ReflectliteValue.parts (rval 64 ⟨g, 0, none⟩ 409) >>= fun _ => ReflectliteValue.parts (rval 64 ⟨h, 0, none⟩ 153) >>= _).run _ _ = _
  simp only [Sem.run_bind, parts_fv, parts_f, Result.andThen]
  simp [ReflectliteValue.flagAddr, loadVar, isAgg, underlying, Tryd.underlying64, Result.andThen, dir_ff, storeVar, Value.cells, hl, hst]
end

theorem Kept.setRow {S : List Nat} {a w : World} (h : Kept S a w) {g : Nat} (hg : g ∈ S ∨ a.heap.size ≤ g) (cs : Array Value) : Kept S a (w.setRow g cs) :=
  h.then (S' := [g]) ⟨rfl, rfl, rfl, by simp [World.setRow], fun k _ hk => setRow_other _ _ _ _ (by simpa using hk)⟩ (by intro x hx; simp at hx; subst hx; exact hg)
theorem Var.setRow {w : World} {g T : Nat} {cs : Array Value} (h : Var w g T cs) (ds : Array Value) : Var (w.setRow g ds) g T ds := setRow_heap w g cs ds T (0, 0) h

end Go.Proofs.YtbglpmjfajmkdaaDoor
