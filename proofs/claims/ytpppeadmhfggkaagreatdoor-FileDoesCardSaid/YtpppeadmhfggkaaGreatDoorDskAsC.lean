/-
  errors.As at the errors of disk: the contracts. Conditions: the one package variable of errors holds what the program's text lays (Glob).
-/
import Derived.Test.YtpppeadmhfggkaaGreatDoorFilG4
namespace Go.Proofs.YtpppeadmhfggkaaGreatDoor
open Go.RowKit DP Go.Extern.Stop Go.Stop Go.Extern

theorem as_nil (t : Value) (w : World) : Calls Tryz.prog 25 #[.nilIface, t] w fun e w' => e = .returned (.bool false) ∧ w = w' := by
  go_enter Tryz.func25, Tryz.ntmps25
  go_wp2
  go_ret
  exact ⟨rfl, rfl⟩

/-- What is found: the variable has it, all else that was there is as it was. -/
def AsPost (ok : Bool) (g T : Nat) (cs : Array Value) (w : World) (e : Ending) (w' : World) : Prop :=
  e = .returned (.bool ok) ∧ Var w' g T cs ∧ Kept [g] w w'

set_option maxRecDepth 100000 in
set_option maxHeartbeats 4000000 in
theorem as_fall_hit (g : Nat) (c0 c1 c2 c3 c4 o0 o1 o2 o3 o4 : Value) (w : World) (hG : Glob w) (ht : Var w g 72 #[o0, o1, o2, o3, o4]) (h1 : ∀ u ∈ [c0, c1, c2, c3, c4], u.oneCell' = true) :
    Calls Tryz.prog 25 #[.iface 72 (.agg #[c0, c1, c2, c3, c4]), .iface 73 (.pointer (some ⟨g, 0, none⟩))] w (AsPost true g 72 #[c0, c1, c2, c3, c4] w) := by
  have x1 := @run_callFunc_extern Tryz.prog 42 _ (fun args => ReflectliteValue.unpack (args.getD 0 (.tuple #[]))) Tryz.func42 (by kernel_rfl) (by kernel_rfl) (by kernel_rfl) (by kernel_rfl)
  have x2 := @run_callFunc_extern Tryz.prog 43 _ typeEntry Tryz.func43 (by kernel_rfl) (by kernel_rfl) (by kernel_rfl) (by kernel_rfl)
  have x3 := @run_callFunc_extern Tryz.prog 44 _ nilEntry Tryz.func44 (by kernel_rfl) (by kernel_rfl) (by kernel_rfl) (by kernel_rfl)
  have x4 := @run_callFunc_extern Tryz.prog 110 _ kindEntry Tryz.func110 (by kernel_rfl) (by kernel_rfl) (by kernel_rfl) (by kernel_rfl)
  have x5 := @run_callFunc_extern Tryz.prog 121 _ (ReflectliteType.method ReflectliteType.elem) Tryz.func121 (by kernel_rfl) (by kernel_rfl) (by kernel_rfl) (by kernel_rfl)
  have x6 := @run_callFunc_extern Tryz.prog 122 _ implEntry Tryz.func122 (by kernel_rfl) (by kernel_rfl) (by kernel_rfl) (by kernel_rfl)
  have x7 := @run_callFunc_extern Tryz.prog 36 _ ReflectliteType.typeOf Tryz.func36 (by kernel_rfl) (by kernel_rfl) (by kernel_rfl) (by kernel_rfl)
  have x8 := @run_callFunc_extern Tryz.prog 119 _ assignEntry Tryz.func119 (by kernel_rfl) (by kernel_rfl) (by kernel_rfl) (by kernel_rfl)
  have x9 := @run_callFunc_extern Tryz.prog 63 _ elemEntry Tryz.func63 (by kernel_rfl) (by kernel_rfl) (by kernel_rfl) (by kernel_rfl)
  have x10 := @run_callFunc_extern Tryz.prog 64 _ ReflectliteValue.set Tryz.func64 (by kernel_rfl) (by kernel_rfl) (by kernel_rfl) (by kernel_rfl)
  have k1 := vOf_pf
  have k2 := vOf_f
  have k3 := type_pf
  have k4 := kind_pf
  have k5 := kind_f
  have k6 := m_kind
  have k7 := m_elem
  have k8 := m_impl
  have k9 := m_assign
  have k10 := elem_pf
  have k11 := impl_f
  have k12 := tOf_f
  have k13 := assign_ff
  have n1 := fun W => nil_pf W ⟨w.heap.size, 0, none⟩ ⟨g, 0, none⟩
  have hg0 : w.cell? ⟨0, 0, none⟩ = some (.iface 116 (.agg #[hdl 30])) := hG
  have hpos := hG.pos
  have hgl := ht.lt
  have n2 := elemV_pf (((w.alloc (.cells #[.pointer (some ⟨g, 0, none⟩)] 73)).alloc (.cells #[hdl 73, .pointer (some ⟨w.heap.size, 0, none⟩), .int .u64 150] 87)).alloc (.cells #[hdl 73, .pointer (some ⟨w.heap.size, 0, none⟩), .int .u64 150] 87)) ⟨w.heap.size, 0, none⟩ ⟨g, 0, none⟩ ((new3 w _ _ _ _ _ _).1.cell 0 rfl)
  obtain ⟨w4, hw4⟩ : ∃ w4, w4 = (((w.alloc (.cells #[.pointer (some ⟨g, 0, none⟩)] 73)).alloc (.cells #[hdl 73, .pointer (some ⟨w.heap.size, 0, none⟩), .int .u64 150] 87)).alloc (.cells #[hdl 73, .pointer (some ⟨w.heap.size, 0, none⟩), .int .u64 150] 87)).alloc (.cells #[c0, c1, c2, c3, c4] 72) := ⟨_, rfl⟩
  have ht4 : Var w4 g 72 #[o0, o1, o2, o3, o4] := by rw [hw4]; exact (((ht.alloc _).alloc _).alloc _).alloc _
  have hs4 : Var w4 (w.heap.size + 1 + 1 + 1) 72 #[c0, c1, c2, c3, c4] := by
    rw [hw4]
    have := Var.new (((w.alloc (.cells #[.pointer (some ⟨g, 0, none⟩)] 73)).alloc (.cells #[hdl 73, .pointer (some ⟨w.heap.size, 0, none⟩), .int .u64 150] 87)).alloc (.cells #[hdl 73, .pointer (some ⟨w.heap.size, 0, none⟩), .int .u64 150] 87)) #[c0, c1, c2, c3, c4] 72
    simpa only [World.size_alloc] using this
  have hk4 : Kept [g] w w4 := by rw [hw4]; exact ((((Kept.refl _ _).alloc _).alloc _).alloc _).alloc _
  have st := set_f w4 g _ c0 c1 c2 c3 c4 _ _ _ _ _ ht4 hs4 h1
  have hfin : AsPost true g 72 #[c0, c1, c2, c3, c4] w (.returned (.bool true)) (w4.setRow g #[c0, c1, c2, c3, c4]) := ⟨rfl, ht4.setRow _, hk4.setRow (.inl (by simp)) _⟩
  subst hw4
  have HFIN := Lib.hid hfin
  clear hfin hk4 hs4 ht4 ht h1 hG
  go_enter Tryz.func25, Tryz.ntmps25
  go_wp2
  refine wp_loop_rounds 1 ?_
  rw [rounds_succ]
  go_wp2
  go_ret
  exact HFIN.out

end Go.Proofs.YtpppeadmhfggkaaGreatDoor
