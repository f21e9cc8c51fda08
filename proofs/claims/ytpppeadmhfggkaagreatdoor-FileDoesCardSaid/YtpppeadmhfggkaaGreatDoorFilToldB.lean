/-
  The laws' told at a fault. Conditions: the fault lies in memory, its number is one of those that a disk's operation returns; the one package variable of errors holds what the program's text lays (Glob).
-/
import Derived.Test.YtpppeadmhfggkaaGreatDoorFilTold
namespace Go.Proofs.YtpppeadmhfggkaaGreatDoor
open Go.RowKit DP

theorem fltS_is (name : ByteArray) (e : Int) : fltS name e = (({ data := #[102, 105, 108, 101, 58, 32] } ++ name) ++ { data := #[58, 32] }) ++ errS e := by
  apply bytesOf_inj
  unfold fltS
  rw [bytesOf_str]
  have ha : ∀ a b : ByteArray, bytesOf (a ++ b) = bytesOf a ++ bytesOf b := fun a b => by unfold bytesOf; simp
  rw [ha, ha, ha]
  have h1 : bytesOf { data := #[102, 105, 108, 101, 58, 32] } = bytesOf fileS ++ bytesOf sepS := rfl
  have h2 : bytesOf { data := #[58, 32] } = bytesOf sepS := rfl
  rw [h1, h2]
  simp

set_option maxRecDepth 100000 in
set_option maxHeartbeats 2000000 in
theorem told_some (g : Nat) (op : Int) (name : ByteArray) (e : Int) (w : World) (hG : Glob w) (h : FltAt w g op name e) (he : ErrNo e) (hn : name.size ≤ 1000) :
    Calls Tryz.prog 11 #[fltV g, .int .i8 op, .string name, .int .i64 e] w fun r w' => r = .returned (.bool true) ∧ Below w.heap.size w w' := by
  have h0 : (e == 0) = false := by rcases he with rfl | rfl | rfl | rfl | rfl <;> rfl
  have hes := errS_size e
  have heq : ((fltS name e).toList == ((({ data := #[102, 105, 108, 101, 58, 32] } ++ name) ++ { data := #[58, 32] }) ++ errS e).toList) = true := by rw [fltS_is]; exact beq_self_eq_true _
  have HG := Lib.hid hG
  have HE := Lib.hid he
  have HF := Lib.hid h
  have e1 : (op == op) = true := beq_self_eq_true _
  have e2 : (name.toList == name.toList) = true := beq_self_eq_true _
  have e3 : (e == e) = true := beq_self_eq_true _
  clear hG he h
  go_enter Tryz.func11, Tryz.ntmps11
  go_wp2_with fail
  have hb1 := bel1 w #[.pointer none] 60
  refine (as_flt_flt g w.heap.size _ _ (HG.out.next hb1) (new1 w _ _)).mono ?_
  rintro r w2 ⟨rfl, hv, hk⟩
  have hb2 : Below w.heap.size w w2 := hb1.trans (hk.below (by simp) (by simp))
  have hf2 : FltAt w2 g op name e := Var.below HF.out hb2 HF.out.lt
  obtain ⟨c0, c1, c2, cf⟩ := hf2.cells3
  have v0 := hv.cell 0 rfl
  have HF2 := Lib.hid hf2
  clear hb1 hk hf2
  go_wp2_with fail
  refine (is_flt g op name e e _ HF2.out).mono ?_
  rintro r w3 ⟨rfl, rfl⟩
  rw [decide_eq_true rfl]
  go_wp2_with fail
  refine (code_flt g op name e _ (HG.out.next hb2) HF2.out).mono ?_
  rintro r w3 ⟨rfl, hb3⟩
  have hb3' := hb2.trans (hb3.mono hb2.size)
  have hf3 : FltAt w3 g op name e := Var.below HF2.out hb3 HF2.out.lt
  have hv3 := Var.below hv hb3 hv.lt
  have HF3 := Lib.hid hf3
  clear c0 c1 c2 cf v0 hb3 hf3
  have v3 := hv3.cell 0 rfl
  go_wp2_with fail
  refine (error_any g op name e _ HF3.out HE.out hn).mono ?_
  rintro r w4 ⟨rfl, hb4⟩
  have hb4' := hb3'.trans (hb4.mono hb3'.size)
  have hf4 : FltAt w4 g op name e := Var.below HF3.out hb4 HF3.out.lt
  have hv4 := Var.below hv3 hb4 hv3.lt
  have HF4 := Lib.hid hf4
  clear hb4 hf4 v3
  have v4 := hv4.cell 0 rfl
  go_wp2_with fail
  refine (said_any HE.out _).mono ?_
  rintro r w5 ⟨rfl, rfl⟩
  go_wp2_with fail
  refine (inner_any g op name e _ HF4.out).mono ?_
  rintro r w5 ⟨rfl, rfl⟩
  go_wp2
  go_ret
  exact ⟨rfl, hb4'⟩
end Go.Proofs.YtpppeadmhfggkaaGreatDoor
