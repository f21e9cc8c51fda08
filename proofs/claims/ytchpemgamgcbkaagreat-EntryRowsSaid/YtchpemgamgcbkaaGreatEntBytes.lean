/-
  Contracts of entry's kinds and Bytes. Conditions: those that each theorem names.
-/
import Derived.Test.YtchpemgamgcbkaaGreatEntKindsB
import Derived.Test.YtchpemgamgcbkaaGreatEntMay
import Derived.Test.YtchpemgamgcbkaaGreatFldHeads
namespace Go.Proofs.YtchpemgamgcbkaaGreat
open Go.RowKit

def kindsV : Array Value := #[.func (.func 58) #[] #[], .func (.func 59) #[] #[], .func (.func 60) #[] #[], .func (.func 61) #[] #[], .func (.func 62) #[] #[], .func (.func 63) #[] #[], .func (.func 64) #[] #[], .func (.func 65) #[] #[], .func (.func 66) #[] #[], .func (.func 67) #[] #[], .func (.func 68) #[] #[], .func (.func 69) #[] #[], .func (.func 70) #[] #[], .func (.func 71) #[] #[]]
set_option maxRecDepth 100000 in
theorem kinds_any (w : World) : Calls Tryz.prog 28 #[] w fun e w' => e = .returned (.agg kindsV) ∧ Below w.heap.size w w' := by
  go_enter Tryz.func28, Tryz.ntmps28
  have v := Var.new w (Array.replicate 14 Value.nilFunc) 66
  have b := below_new (w := w) (.cells (Array.replicate 14 Value.nilFunc) 66)
  have hn : Array.replicate 14 Value.nilFunc = #[.nilFunc, .nilFunc, .nilFunc, .nilFunc, .nilFunc, .nilFunc, .nilFunc, .nilFunc, .nilFunc, .nilFunc, .nilFunc, .nilFunc, .nilFunc, .nilFunc] := rfl
  rw [hn] at v b
  clear hn
  go_wp2_with (refine wpList_store_var rfl _ _ rfl rfl rfl v rfl (by kernel_rfl) (by simp [Value.oneCell']) ?_; intro W9 v9 o9)
  refine bodyPost_ret (results_var rfl rfl v9 Tryz.underlying66 rfl (by kernel_rfl)) rfl ?_
  exact ⟨rfl, Only.below b o9 (Nat.le_refl _)⟩
@[go_sem] theorem kinds_at0 (w : World) : (Instr.index 66 (.agg #[.func (.func 58) #[] #[], .func (.func 59) #[] #[], .func (.func 60) #[] #[], .func (.func 61) #[] #[], .func (.func 62) #[] #[], .func (.func 63) #[] #[], .func (.func 64) #[] #[], .func (.func 65) #[] #[], .func (.func 66) #[] #[], .func (.func 67) #[] #[], .func (.func 68) #[] #[], .func (.func 69) #[] #[], .func (.func 70) #[] #[], .func (.func 71) #[] #[]]) (.int .i8 0)).run Tryz.prog w = .ok (.agg #[.func (.func 58) #[] #[], .func (.func 59) #[] #[]]) w := by kernel_rfl
@[go_sem] theorem kinds_at1 (w : World) : (Instr.index 66 (.agg #[.func (.func 58) #[] #[], .func (.func 59) #[] #[], .func (.func 60) #[] #[], .func (.func 61) #[] #[], .func (.func 62) #[] #[], .func (.func 63) #[] #[], .func (.func 64) #[] #[], .func (.func 65) #[] #[], .func (.func 66) #[] #[], .func (.func 67) #[] #[], .func (.func 68) #[] #[], .func (.func 69) #[] #[], .func (.func 70) #[] #[], .func (.func 71) #[] #[]]) (.int .i8 1)).run Tryz.prog w = .ok (.agg #[.func (.func 60) #[] #[], .func (.func 61) #[] #[]]) w := by kernel_rfl
@[go_sem] theorem kinds_at2 (w : World) : (Instr.index 66 (.agg #[.func (.func 58) #[] #[], .func (.func 59) #[] #[], .func (.func 60) #[] #[], .func (.func 61) #[] #[], .func (.func 62) #[] #[], .func (.func 63) #[] #[], .func (.func 64) #[] #[], .func (.func 65) #[] #[], .func (.func 66) #[] #[], .func (.func 67) #[] #[], .func (.func 68) #[] #[], .func (.func 69) #[] #[], .func (.func 70) #[] #[], .func (.func 71) #[] #[]]) (.int .i8 2)).run Tryz.prog w = .ok (.agg #[.func (.func 62) #[] #[], .func (.func 63) #[] #[]]) w := by kernel_rfl
@[go_sem] theorem kinds_at3 (w : World) : (Instr.index 66 (.agg #[.func (.func 58) #[] #[], .func (.func 59) #[] #[], .func (.func 60) #[] #[], .func (.func 61) #[] #[], .func (.func 62) #[] #[], .func (.func 63) #[] #[], .func (.func 64) #[] #[], .func (.func 65) #[] #[], .func (.func 66) #[] #[], .func (.func 67) #[] #[], .func (.func 68) #[] #[], .func (.func 69) #[] #[], .func (.func 70) #[] #[], .func (.func 71) #[] #[]]) (.int .i8 3)).run Tryz.prog w = .ok (.agg #[.func (.func 64) #[] #[], .func (.func 65) #[] #[]]) w := by kernel_rfl
@[go_sem] theorem kinds_at4 (w : World) : (Instr.index 66 (.agg #[.func (.func 58) #[] #[], .func (.func 59) #[] #[], .func (.func 60) #[] #[], .func (.func 61) #[] #[], .func (.func 62) #[] #[], .func (.func 63) #[] #[], .func (.func 64) #[] #[], .func (.func 65) #[] #[], .func (.func 66) #[] #[], .func (.func 67) #[] #[], .func (.func 68) #[] #[], .func (.func 69) #[] #[], .func (.func 70) #[] #[], .func (.func 71) #[] #[]]) (.int .i8 4)).run Tryz.prog w = .ok (.agg #[.func (.func 66) #[] #[], .func (.func 67) #[] #[]]) w := by kernel_rfl
@[go_sem] theorem kinds_at5 (w : World) : (Instr.index 66 (.agg #[.func (.func 58) #[] #[], .func (.func 59) #[] #[], .func (.func 60) #[] #[], .func (.func 61) #[] #[], .func (.func 62) #[] #[], .func (.func 63) #[] #[], .func (.func 64) #[] #[], .func (.func 65) #[] #[], .func (.func 66) #[] #[], .func (.func 67) #[] #[], .func (.func 68) #[] #[], .func (.func 69) #[] #[], .func (.func 70) #[] #[], .func (.func 71) #[] #[]]) (.int .i8 5)).run Tryz.prog w = .ok (.agg #[.func (.func 68) #[] #[], .func (.func 69) #[] #[]]) w := by kernel_rfl
@[go_sem] theorem kinds_at6 (w : World) : (Instr.index 66 (.agg #[.func (.func 58) #[] #[], .func (.func 59) #[] #[], .func (.func 60) #[] #[], .func (.func 61) #[] #[], .func (.func 62) #[] #[], .func (.func 63) #[] #[], .func (.func 64) #[] #[], .func (.func 65) #[] #[], .func (.func 66) #[] #[], .func (.func 67) #[] #[], .func (.func 68) #[] #[], .func (.func 69) #[] #[], .func (.func 70) #[] #[], .func (.func 71) #[] #[]]) (.int .i8 6)).run Tryz.prog w = .ok (.agg #[.func (.func 70) #[] #[], .func (.func 71) #[] #[]]) w := by kernel_rfl
@[go_sem] theorem kind_write (f g : Value) (w : World) : (Instr.field 65 (.agg #[f, g]) 0).run Tryz.prog w = .ok f w := by kernel_rfl
@[go_sem] theorem kind_read (f g : Value) (w : World) : (Instr.field 65 (.agg #[f, g]) 1).run Tryz.prog w = .ok g w := by kernel_rfl
theorem exec_load_var {P : Program} {w : World} {g T ty : Nat} {cs : Array Value} {ρ : Operand → Value} {o : Oper} {x : Operand} {d : TypeDesc} (ho : o.op = .load ty x) (hx : ρ x = .pointer (some ⟨g, 0, none⟩)) (hv : Var w g T cs) (hu : P.underlying ty = some d)
    (hd : (match d with | .struct _ | .array _ _ => true | _ => false) = true) (hi : (P.info? ty).map (·.size) = some cs.size) : (execOp ρ o).run P w = .ok (.value (.agg cs)) w := by
  unfold execOp
  simp only [ho, hx, Instr.loadAt, Instr.sureAddr, Sem.run_bind, Sem.run_pure, Result.andThen_ok, run_loadVar_row w g T ty cs (0, 0) d hv hu hd hi]

set_option maxRecDepth 100000 in
set_option maxHeartbeats 1000000 in
theorem ebytes_no (x : En) (A D : Option Addr) (n c m d B : Nat) (w : World) (hx : EIn w B x A n c D m d) (hB : B ≤ w.heap.size) (hg : ¬ x.Good) :
    Calls Tryz.prog 8 #[.agg (evals x A n c D m d)] w fun e w' => e = .returned (.tuple #[.string ⟨#[]⟩, .int .i64 2]) ∧ Below w.heap.size w w' := by
  obtain ⟨W0, hW0⟩ : ∃ W0, W0 = w.alloc (.cells (evals x A n c D m d) 32) := ⟨_, rfl⟩
  have v0 : Var W0 w.heap.size 32 (evals x A n c D m d) := by rw [hW0]; exact Var.new _ _ _
  have b0 : Below w.heap.size w W0 := by rw [hW0]; exact below_new _
  have HX := Lib.hid (hx.below (b0.mono hB))
  have hB0 := Nat.le_trans hB b0.size
  have HG := Lib.hid hg
  obtain ⟨kind, ⟨pid, ep, sq, tx, rs⟩, yes, nx, off, ⟨ro, rp, rq, rk, rv⟩, ⟨pp, pe, pn, sn⟩⟩ := x
  simp only [evals] at hW0 v0 ⊢
  have HW0 := Lib.hid hW0
  clear hW0 hx hg
  go_enter Tryz.func8, Tryz.ntmps8
  go_upto_region 1 with fail
  rw [← HW0.out]
  go_wp2_with (refine wpList_load_var rfl _ rfl Tryz.underlying32 rfl rfl v0 (by kernel_rfl) ?_)
  refine (emay_any ⟨kind, ⟨pid, ep, sq, tx, rs⟩, yes, nx, off, ⟨ro, rp, rq, rk, rv⟩, ⟨pp, pe, pn, sn⟩⟩ A D n c m d B false W0 HX.out hB0 ⟨by simp, fun h => absurd h HG.out⟩).mono ?_
  rintro e w1 ⟨rfl, hb1⟩
  have b1 := b0.trans (hb1.mono b0.size)
  go_wp2
  go_ret2
  exact ⟨rfl, b1⟩

/-- What the chosen method does in whatever world. -/
def Writes (x : En) (A D : Option Addr) (n c m d : Nat) (f : Nat) (B : Nat) : Prop := ∀ (g : Nat) (ys : List UInt8) (w : World), Wt w g ys → ys.length ≤ 20 → EIn w B x A n c D m d → B ≤ g → Calls Tryz.prog f #[.pointer (some ⟨g, 0, none⟩), .agg (evals x A n c D m d)] w (WRes2 w g (ys ++ x.body))

set_option maxRecDepth 100000 in
set_option maxHeartbeats 1000000 in
theorem ebytes_data (pid ep sq nx off ro rp rq pp pe pn : Int) (tx yes : Bool) (rs : List Rc) (rk rv : ByteArray) (sn : List Sn) (A D : Option Addr) (n c m d B : Nat) (w : World) (hx : EIn w B ⟨0, ⟨pid, ep, sq, tx, rs⟩, yes, nx, off, ⟨ro, rp, rq, rk, rv⟩, ⟨pp, pe, pn, sn⟩⟩ A n c D m d) (hB : B ≤ w.heap.size) (hg : En.Good ⟨0, ⟨pid, ep, sq, tx, rs⟩, yes, nx, off, ⟨ro, rp, rq, rk, rv⟩, ⟨pp, pe, pn, sn⟩⟩) (hwr : Writes ⟨0, ⟨pid, ep, sq, tx, rs⟩, yes, nx, off, ⟨ro, rp, rq, rk, rv⟩, ⟨pp, pe, pn, sn⟩⟩ A D n c m d 58 B) :
    Calls Tryz.prog 8 #[.agg #[.int .i8 0, .int .i64 pid, .int .i64 ep, .int .i64 sq, .bool tx, .slice A n c, .bool yes, .int .i64 nx, .int .i64 off, .int .i64 ro, .int .i64 rp, .int .i64 rq, .string rk, .string rv, .int .i64 pp, .int .i64 pe, .int .i64 pn, .slice D m d]] w fun e w' => e = .returned (.tuple #[.string ⟨(En.enc ⟨0, ⟨pid, ep, sq, tx, rs⟩, yes, nx, off, ⟨ro, rp, rq, rk, rv⟩, ⟨pp, pe, pn, sn⟩⟩).toArray⟩, .int .i64 0]) ∧ Below w.heap.size w w' := by
  obtain ⟨W0, hW0⟩ : ∃ W0, W0 = w.alloc (.cells #[.int .i8 0, .int .i64 pid, .int .i64 ep, .int .i64 sq, .bool tx, .slice A n c, .bool yes, .int .i64 nx, .int .i64 off, .int .i64 ro, .int .i64 rp, .int .i64 rq, .string rk, .string rv, .int .i64 pp, .int .i64 pe, .int .i64 pn, .slice D m d] 32) := ⟨_, rfl⟩
  have v0 : Var W0 w.heap.size 32 #[.int .i8 0, .int .i64 pid, .int .i64 ep, .int .i64 sq, .bool tx, .slice A n c, .bool yes, .int .i64 nx, .int .i64 off, .int .i64 ro, .int .i64 rp, .int .i64 rq, .string rk, .string rv, .int .i64 pp, .int .i64 pe, .int .i64 pn, .slice D m d] := by rw [hW0]; exact Var.new _ _ _
  have b0 : Below w.heap.size w W0 := by rw [hW0]; exact below_new _
  have HX := Lib.hid (hx.below (b0.mono hB))
  have hB0 := Nat.le_trans hB b0.size
  have HE : Hid ([] ++ encN [0] ++ En.body ⟨0, ⟨pid, ep, sq, tx, rs⟩, yes, nx, off, ⟨ro, rp, rq, rk, rv⟩, ⟨pp, pe, pn, sn⟩⟩ = En.enc ⟨0, ⟨pid, ep, sq, tx, rs⟩, yes, nx, off, ⟨ro, rp, rq, rk, rv⟩, ⟨pp, pe, pn, sn⟩⟩) := by show _ = _; simp [encN, En.enc]
  have HG := Lib.hid hg
  have HWR := Lib.hid hwr
  have HW0 := Lib.hid hW0
  clear hW0 hx hg hwr
  go_enter Tryz.func8, Tryz.ntmps8
  go_upto_region 1 with fail
  rw [← HW0.out]
  go_wp2_with (refine wpList_load_var rfl _ rfl Tryz.underlying32 rfl rfl v0 (by kernel_rfl) ?_)
  refine (emay_any ⟨0, ⟨pid, ep, sq, tx, rs⟩, yes, nx, off, ⟨ro, rp, rq, rk, rv⟩, ⟨pp, pe, pn, sn⟩⟩ A D n c m d B true W0 HX.out hB0 ⟨fun _ => HG.out, fun _ => rfl⟩).mono ?_
  rintro e w1 ⟨rfl, hb1⟩
  have b1 := b0.trans (hb1.mono b0.size)
  have v1 := v0.below hb1 v0.lt
  have HX1 := Lib.hid (HX.out.below (hb1.mono hB0))
  clear v0 HX HW0
  go_upto_region 4 with fail
  obtain ⟨g, hg⟩ : ∃ g, g = w1.heap.size := ⟨_, rfl⟩
  refine wp_at (C := fun W => Var W w.heap.size 32 #[.int .i8 0, .int .i64 pid, .int .i64 ep, .int .i64 sq, .bool tx, .slice A n c, .bool yes, .int .i64 nx, .int .i64 off, .int .i64 ro, .int .i64 rp, .int .i64 rq, .string rk, .string rv, .int .i64 pp, .int .i64 pe, .int .i64 pn, .slice D m d] ∧ Below w.heap.size w W ∧ EIn W B ⟨0, ⟨pid, ep, sq, tx, rs⟩, yes, nx, off, ⟨ro, rp, rq, rk, rv⟩, ⟨pp, pe, pn, sn⟩⟩ A n c D m d ∧ Wt W g []) ⟨v1.alloc _, b1.alloc b1.size _, HX1.out.below ((below_new _).mono (Nat.le_trans hB0 hb1.size)), ⟨.slice none 0 0, 0, by rw [hg]; exact Var.new _ _ _, World.ownsRow_nil _ _ _ _, rfl⟩⟩ ?_
  have hgw : w.heap.size < g := by rw [hg]; exact v1.lt
  clear v1 HX1
  rw [← hg]
  clear hg
  rintro W2 ⟨v2, b2, hx2, hw2⟩
  have HX2 := Lib.hid hx2
  clear hx2
  have hc := v2.cell 0 rfl
  have z2 := v2.lt
  go_wp2_with fail
  refine (numbers_new W2 g [] [0] 1 hw2 rfl (by simp) (by omega) (by simp)).mono ?_
  rintro e W3 ⟨rfl, hw3, q3⟩
  have v3 := v2.kept q3 (by simp; omega)
  have b3 := b2.trans (q3.below (by omega) (by simp; omega))
  have HX3 := Lib.hid (HX2.out.below (q3.below (B := B) (by have := b2.size; omega) (by simp; omega)))
  clear v2 hw2 HX2 q3 hc z2
  go_upto_region 5 with fail
  have h3 : Var W3.drew w.heap.size 32 #[.int .i8 0, .int .i64 pid, .int .i64 ep, .int .i64 sq, .bool tx, .slice A n c, .bool yes, .int .i64 nx, .int .i64 off, .int .i64 ro, .int .i64 rp, .int .i64 rq, .string rk, .string rv, .int .i64 pp, .int .i64 pe, .int .i64 pn, .slice D m d] := v3
  have hw3d : Wt W3.drew g ([] ++ encN [0]) := hw3
  have b3d : Below w.heap.size w W3.drew := b3.drew
  have HX3d : Hid (EIn W3.drew B ⟨0, ⟨pid, ep, sq, tx, rs⟩, yes, nx, off, ⟨ro, rp, rq, rk, rv⟩, ⟨pp, pe, pn, sn⟩⟩ A n c D m d) := HX3.out.below (Below.refl _ _).drew
  clear v3 hw3 b3 HX3
  refine wp_region_held_drew (S := fun w' => Var w' w.heap.size 32 #[.int .i8 0, .int .i64 pid, .int .i64 ep, .int .i64 sq, .bool tx, .slice A n c, .bool yes, .int .i64 nx, .int .i64 off, .int .i64 ro, .int .i64 rp, .int .i64 rq, .string rk, .string rv, .int .i64 pp, .int .i64 pe, .int .i64 pn, .slice D m d]) (by kernel_rfl) h3 (fun hHeld => ?_)
  refine fld_takes [1, 2, 5, 6] _ 4 _ _ _ (by kernel_rfl) (fun _ d _ _ _ h => by cases d <;> exact h) (by rfl) (by kernel_rfl) (by assumption) ?_
  refine fld_taken (v := ?_) rfl (by rfl) (fun w' hw' => ?_) ?_
  rotate_left
  · (go_simp <;> with_reducible rfl)
  simp only [Act.put, List.getElem_toArray, List.getElem_cons_succ, List.getElem_cons_zero, List.setIfInBounds_toArray, List.set_cons_zero, List.set_cons_succ]
  refine fld_taken (v := ?_) rfl (by rfl) (fun w' hw' => ?_) ?_
  rotate_left
  · have hc := hw'.cell 0 rfl
    go_simp <;> with_reducible rfl
  simp only [Act.put, List.getElem_toArray, List.getElem_cons_succ, List.getElem_cons_zero, List.setIfInBounds_toArray, List.set_cons_zero, List.set_cons_succ]
  refine fld_taken (v := ?_) rfl (by rfl) (fun w' hw' => ?_) ?_
  rotate_left
  · (go_simp <;> with_reducible rfl)
  simp only [Act.put, List.getElem_toArray, List.getElem_cons_succ, List.getElem_cons_zero, List.setIfInBounds_toArray, List.set_cons_zero, List.set_cons_succ]
  refine fld_taken (v := ?_) rfl (by rfl) (fun w' hw' => ?_) ?_
  rotate_left
  · refine exec_load_var (x := .tmp 1) ?_ ?_ hw' Tryz.underlying32 rfl (by kernel_rfl) <;> rfl
  simp only [Act.put, List.getElem_toArray, List.getElem_cons_succ, List.getElem_cons_zero, List.setIfInBounds_toArray, List.set_cons_zero, List.set_cons_succ]
  refine fld_taken_nil ?_
  refine fld_alone (i := 0) (by kernel_rfl) rfl (by rfl) (fun K hK => ?_)
  go_simp
  refine (kinds_any _).mono ?_
  rintro e W4 ⟨rfl, h4⟩
  have h5 : Var W4 w.heap.size 32 #[.int .i8 0, .int .i64 pid, .int .i64 ep, .int .i64 sq, .bool tx, .slice A n c, .bool yes, .int .i64 nx, .int .i64 off, .int .i64 ro, .int .i64 rp, .int .i64 rq, .string rk, .string rv, .int .i64 pp, .int .i64 pe, .int .i64 pn, .slice D m d] := h3.below h4 h3.lt
  have hw4 := hw3d.below h4
  have b4 := b3d.trans (h4.mono b3d.size)
  have HX4 := Lib.hid (HX3d.out.below (h4.mono (by have := b3d.size; omega)))
  simp only [kindsV]
  go_wp2_with fail
  refine hK.out _ _ h5 ?_
  clear hK K h3 hw3d b3d HX3d h4
  refine fld_takes [3, 4] _ 1 _ _ _ (by kernel_rfl) (fun _ d _ _ _ h => by cases d <;> exact h) (by rfl) (by kernel_rfl) (by assumption) ?_
  refine fld_taken (v := ?_) rfl (by rfl) (fun w' hw' => ?_) ?_
  rotate_left
  · (go_simp <;> with_reducible rfl)
  simp only [Act.put, List.getElem_toArray, List.getElem_cons_succ, List.getElem_cons_zero, List.setIfInBounds_toArray, List.set_cons_zero, List.set_cons_succ]
  refine fld_taken (v := ?_) rfl (by rfl) (fun w' hw' => ?_) ?_
  rotate_left
  · (go_simp <;> with_reducible rfl)
  simp only [Act.put, List.getElem_toArray, List.getElem_cons_succ, List.getElem_cons_zero, List.setIfInBounds_toArray, List.set_cons_zero, List.set_cons_succ]
  refine fld_taken_nil ?_
  refine fld_alone (i := 7) (by kernel_rfl) rfl (by rfl) (fun K hK => ?_)
  go_simp
  refine (HWR.out g _ W4 hw4 (by have := encN_le [0] (by simp); simp only [List.nil_append]; simp only [List.length_cons, List.length_nil] at this; omega) HX4.out (by omega)).mono ?_
  rintro e W5 ⟨rfl, hw5, k5⟩
  have h6 := k5.2 _ _ _ h5 (by omega) (by decide)
  have b6 := b4.trans (k5.1.mono (Nat.le_of_lt hgw))
  clear HX4 HWR k5 hw4 b4 h5
  rw [HE.out] at hw5
  go_wp2_with fail
  refine hK.out _ _ h6 ?_
  clear hK K h6 hHeld
  refine wpAnyH_done (by kernel_rfl) ?_ _
  obtain ⟨A2, c2, ly, hv, hs2, hly, hc2, -⟩ := hw5.get
  have hgr := hv.lt
  have p0 : W5.cell? ⟨g, 0, none⟩ = some (.slice A2 ly c2) := hv.cell 0 rfl
  have hst := str_now (P := Tryz.prog) hs2 58 9 5 ly c2 hly Tryz.underlying58 Tryz.underlying5 Tryz.underlying9
  clear hly hs2 hv hw5
  go_wp2
  go_ret2
  exact ⟨rfl, b6⟩

set_option maxRecDepth 100000 in
set_option maxHeartbeats 1000000 in
theorem ebytes_mark (pid ep sq nx off ro rp rq pp pe pn : Int) (tx yes : Bool) (rs : List Rc) (rk rv : ByteArray) (sn : List Sn) (A D : Option Addr) (n c m d B : Nat) (w : World) (hx : EIn w B ⟨1, ⟨pid, ep, sq, tx, rs⟩, yes, nx, off, ⟨ro, rp, rq, rk, rv⟩, ⟨pp, pe, pn, sn⟩⟩ A n c D m d) (hB : B ≤ w.heap.size) (hg : En.Good ⟨1, ⟨pid, ep, sq, tx, rs⟩, yes, nx, off, ⟨ro, rp, rq, rk, rv⟩, ⟨pp, pe, pn, sn⟩⟩) (hwr : Writes ⟨1, ⟨pid, ep, sq, tx, rs⟩, yes, nx, off, ⟨ro, rp, rq, rk, rv⟩, ⟨pp, pe, pn, sn⟩⟩ A D n c m d 60 B) :
    Calls Tryz.prog 8 #[.agg #[.int .i8 1, .int .i64 pid, .int .i64 ep, .int .i64 sq, .bool tx, .slice A n c, .bool yes, .int .i64 nx, .int .i64 off, .int .i64 ro, .int .i64 rp, .int .i64 rq, .string rk, .string rv, .int .i64 pp, .int .i64 pe, .int .i64 pn, .slice D m d]] w fun e w' => e = .returned (.tuple #[.string ⟨(En.enc ⟨1, ⟨pid, ep, sq, tx, rs⟩, yes, nx, off, ⟨ro, rp, rq, rk, rv⟩, ⟨pp, pe, pn, sn⟩⟩).toArray⟩, .int .i64 0]) ∧ Below w.heap.size w w' := by
  obtain ⟨W0, hW0⟩ : ∃ W0, W0 = w.alloc (.cells #[.int .i8 1, .int .i64 pid, .int .i64 ep, .int .i64 sq, .bool tx, .slice A n c, .bool yes, .int .i64 nx, .int .i64 off, .int .i64 ro, .int .i64 rp, .int .i64 rq, .string rk, .string rv, .int .i64 pp, .int .i64 pe, .int .i64 pn, .slice D m d] 32) := ⟨_, rfl⟩
  have v0 : Var W0 w.heap.size 32 #[.int .i8 1, .int .i64 pid, .int .i64 ep, .int .i64 sq, .bool tx, .slice A n c, .bool yes, .int .i64 nx, .int .i64 off, .int .i64 ro, .int .i64 rp, .int .i64 rq, .string rk, .string rv, .int .i64 pp, .int .i64 pe, .int .i64 pn, .slice D m d] := by rw [hW0]; exact Var.new _ _ _
  have b0 : Below w.heap.size w W0 := by rw [hW0]; exact below_new _
  have HX := Lib.hid (hx.below (b0.mono hB))
  have hB0 := Nat.le_trans hB b0.size
  have HE : Hid ([] ++ encN [1] ++ En.body ⟨1, ⟨pid, ep, sq, tx, rs⟩, yes, nx, off, ⟨ro, rp, rq, rk, rv⟩, ⟨pp, pe, pn, sn⟩⟩ = En.enc ⟨1, ⟨pid, ep, sq, tx, rs⟩, yes, nx, off, ⟨ro, rp, rq, rk, rv⟩, ⟨pp, pe, pn, sn⟩⟩) := by show _ = _; simp [encN, En.enc]
  have HG := Lib.hid hg
  have HWR := Lib.hid hwr
  have HW0 := Lib.hid hW0
  clear hW0 hx hg hwr
  go_enter Tryz.func8, Tryz.ntmps8
  go_upto_region 1 with fail
  rw [← HW0.out]
  go_wp2_with (refine wpList_load_var rfl _ rfl Tryz.underlying32 rfl rfl v0 (by kernel_rfl) ?_)
  refine (emay_any ⟨1, ⟨pid, ep, sq, tx, rs⟩, yes, nx, off, ⟨ro, rp, rq, rk, rv⟩, ⟨pp, pe, pn, sn⟩⟩ A D n c m d B true W0 HX.out hB0 ⟨fun _ => HG.out, fun _ => rfl⟩).mono ?_
  rintro e w1 ⟨rfl, hb1⟩
  have b1 := b0.trans (hb1.mono b0.size)
  have v1 := v0.below hb1 v0.lt
  have HX1 := Lib.hid (HX.out.below (hb1.mono hB0))
  clear v0 HX HW0
  go_upto_region 4 with fail
  obtain ⟨g, hg⟩ : ∃ g, g = w1.heap.size := ⟨_, rfl⟩
  refine wp_at (C := fun W => Var W w.heap.size 32 #[.int .i8 1, .int .i64 pid, .int .i64 ep, .int .i64 sq, .bool tx, .slice A n c, .bool yes, .int .i64 nx, .int .i64 off, .int .i64 ro, .int .i64 rp, .int .i64 rq, .string rk, .string rv, .int .i64 pp, .int .i64 pe, .int .i64 pn, .slice D m d] ∧ Below w.heap.size w W ∧ EIn W B ⟨1, ⟨pid, ep, sq, tx, rs⟩, yes, nx, off, ⟨ro, rp, rq, rk, rv⟩, ⟨pp, pe, pn, sn⟩⟩ A n c D m d ∧ Wt W g []) ⟨v1.alloc _, b1.alloc b1.size _, HX1.out.below ((below_new _).mono (Nat.le_trans hB0 hb1.size)), ⟨.slice none 0 0, 0, by rw [hg]; exact Var.new _ _ _, World.ownsRow_nil _ _ _ _, rfl⟩⟩ ?_
  have hgw : w.heap.size < g := by rw [hg]; exact v1.lt
  clear v1 HX1
  rw [← hg]
  clear hg
  rintro W2 ⟨v2, b2, hx2, hw2⟩
  have HX2 := Lib.hid hx2
  clear hx2
  have hc := v2.cell 0 rfl
  have z2 := v2.lt
  go_wp2_with fail
  refine (numbers_new W2 g [] [1] 1 hw2 rfl (by simp) (by omega) (by simp)).mono ?_
  rintro e W3 ⟨rfl, hw3, q3⟩
  have v3 := v2.kept q3 (by simp; omega)
  have b3 := b2.trans (q3.below (by omega) (by simp; omega))
  have HX3 := Lib.hid (HX2.out.below (q3.below (B := B) (by have := b2.size; omega) (by simp; omega)))
  clear v2 hw2 HX2 q3 hc z2
  go_upto_region 5 with fail
  have h3 : Var W3.drew w.heap.size 32 #[.int .i8 1, .int .i64 pid, .int .i64 ep, .int .i64 sq, .bool tx, .slice A n c, .bool yes, .int .i64 nx, .int .i64 off, .int .i64 ro, .int .i64 rp, .int .i64 rq, .string rk, .string rv, .int .i64 pp, .int .i64 pe, .int .i64 pn, .slice D m d] := v3
  have hw3d : Wt W3.drew g ([] ++ encN [1]) := hw3
  have b3d : Below w.heap.size w W3.drew := b3.drew
  have HX3d : Hid (EIn W3.drew B ⟨1, ⟨pid, ep, sq, tx, rs⟩, yes, nx, off, ⟨ro, rp, rq, rk, rv⟩, ⟨pp, pe, pn, sn⟩⟩ A n c D m d) := HX3.out.below (Below.refl _ _).drew
  clear v3 hw3 b3 HX3
  refine wp_region_held_drew (S := fun w' => Var w' w.heap.size 32 #[.int .i8 1, .int .i64 pid, .int .i64 ep, .int .i64 sq, .bool tx, .slice A n c, .bool yes, .int .i64 nx, .int .i64 off, .int .i64 ro, .int .i64 rp, .int .i64 rq, .string rk, .string rv, .int .i64 pp, .int .i64 pe, .int .i64 pn, .slice D m d]) (by kernel_rfl) h3 (fun hHeld => ?_)
  refine fld_takes [1, 2, 5, 6] _ 4 _ _ _ (by kernel_rfl) (fun _ d _ _ _ h => by cases d <;> exact h) (by rfl) (by kernel_rfl) (by assumption) ?_
  refine fld_taken (v := ?_) rfl (by rfl) (fun w' hw' => ?_) ?_
  rotate_left
  · (go_simp <;> with_reducible rfl)
  simp only [Act.put, List.getElem_toArray, List.getElem_cons_succ, List.getElem_cons_zero, List.setIfInBounds_toArray, List.set_cons_zero, List.set_cons_succ]
  refine fld_taken (v := ?_) rfl (by rfl) (fun w' hw' => ?_) ?_
  rotate_left
  · have hc := hw'.cell 0 rfl
    go_simp <;> with_reducible rfl
  simp only [Act.put, List.getElem_toArray, List.getElem_cons_succ, List.getElem_cons_zero, List.setIfInBounds_toArray, List.set_cons_zero, List.set_cons_succ]
  refine fld_taken (v := ?_) rfl (by rfl) (fun w' hw' => ?_) ?_
  rotate_left
  · (go_simp <;> with_reducible rfl)
  simp only [Act.put, List.getElem_toArray, List.getElem_cons_succ, List.getElem_cons_zero, List.setIfInBounds_toArray, List.set_cons_zero, List.set_cons_succ]
  refine fld_taken (v := ?_) rfl (by rfl) (fun w' hw' => ?_) ?_
  rotate_left
  · refine exec_load_var (x := .tmp 1) ?_ ?_ hw' Tryz.underlying32 rfl (by kernel_rfl) <;> rfl
  simp only [Act.put, List.getElem_toArray, List.getElem_cons_succ, List.getElem_cons_zero, List.setIfInBounds_toArray, List.set_cons_zero, List.set_cons_succ]
  refine fld_taken_nil ?_
  refine fld_alone (i := 0) (by kernel_rfl) rfl (by rfl) (fun K hK => ?_)
  go_simp
  refine (kinds_any _).mono ?_
  rintro e W4 ⟨rfl, h4⟩
  have h5 : Var W4 w.heap.size 32 #[.int .i8 1, .int .i64 pid, .int .i64 ep, .int .i64 sq, .bool tx, .slice A n c, .bool yes, .int .i64 nx, .int .i64 off, .int .i64 ro, .int .i64 rp, .int .i64 rq, .string rk, .string rv, .int .i64 pp, .int .i64 pe, .int .i64 pn, .slice D m d] := h3.below h4 h3.lt
  have hw4 := hw3d.below h4
  have b4 := b3d.trans (h4.mono b3d.size)
  have HX4 := Lib.hid (HX3d.out.below (h4.mono (by have := b3d.size; omega)))
  simp only [kindsV]
  go_wp2_with fail
  refine hK.out _ _ h5 ?_
  clear hK K h3 hw3d b3d HX3d h4
  refine fld_takes [3, 4] _ 1 _ _ _ (by kernel_rfl) (fun _ d _ _ _ h => by cases d <;> exact h) (by rfl) (by kernel_rfl) (by assumption) ?_
  refine fld_taken (v := ?_) rfl (by rfl) (fun w' hw' => ?_) ?_
  rotate_left
  · (go_simp <;> with_reducible rfl)
  simp only [Act.put, List.getElem_toArray, List.getElem_cons_succ, List.getElem_cons_zero, List.setIfInBounds_toArray, List.set_cons_zero, List.set_cons_succ]
  refine fld_taken (v := ?_) rfl (by rfl) (fun w' hw' => ?_) ?_
  rotate_left
  · (go_simp <;> with_reducible rfl)
  simp only [Act.put, List.getElem_toArray, List.getElem_cons_succ, List.getElem_cons_zero, List.setIfInBounds_toArray, List.set_cons_zero, List.set_cons_succ]
  refine fld_taken_nil ?_
  refine fld_alone (i := 7) (by kernel_rfl) rfl (by rfl) (fun K hK => ?_)
  go_simp
  refine (HWR.out g _ W4 hw4 (by have := encN_le [1] (by simp); simp only [List.nil_append]; simp only [List.length_cons, List.length_nil] at this; omega) HX4.out (by omega)).mono ?_
  rintro e W5 ⟨rfl, hw5, k5⟩
  have h6 := k5.2 _ _ _ h5 (by omega) (by decide)
  have b6 := b4.trans (k5.1.mono (Nat.le_of_lt hgw))
  clear HX4 HWR k5 hw4 b4 h5
  rw [HE.out] at hw5
  go_wp2_with fail
  refine hK.out _ _ h6 ?_
  clear hK K h6 hHeld
  refine wpAnyH_done (by kernel_rfl) ?_ _
  obtain ⟨A2, c2, ly, hv, hs2, hly, hc2, -⟩ := hw5.get
  have hgr := hv.lt
  have p0 : W5.cell? ⟨g, 0, none⟩ = some (.slice A2 ly c2) := hv.cell 0 rfl
  have hst := str_now (P := Tryz.prog) hs2 58 9 5 ly c2 hly Tryz.underlying58 Tryz.underlying5 Tryz.underlying9
  clear hly hs2 hv hw5
  go_wp2
  go_ret2
  exact ⟨rfl, b6⟩

set_option maxRecDepth 100000 in
set_option maxHeartbeats 1000000 in
theorem ebytes_cut (pid ep sq nx off ro rp rq pp pe pn : Int) (tx yes : Bool) (rs : List Rc) (rk rv : ByteArray) (sn : List Sn) (A D : Option Addr) (n c m d B : Nat) (w : World) (hx : EIn w B ⟨2, ⟨pid, ep, sq, tx, rs⟩, yes, nx, off, ⟨ro, rp, rq, rk, rv⟩, ⟨pp, pe, pn, sn⟩⟩ A n c D m d) (hB : B ≤ w.heap.size) (hg : En.Good ⟨2, ⟨pid, ep, sq, tx, rs⟩, yes, nx, off, ⟨ro, rp, rq, rk, rv⟩, ⟨pp, pe, pn, sn⟩⟩) (hwr : Writes ⟨2, ⟨pid, ep, sq, tx, rs⟩, yes, nx, off, ⟨ro, rp, rq, rk, rv⟩, ⟨pp, pe, pn, sn⟩⟩ A D n c m d 62 B) :
    Calls Tryz.prog 8 #[.agg #[.int .i8 2, .int .i64 pid, .int .i64 ep, .int .i64 sq, .bool tx, .slice A n c, .bool yes, .int .i64 nx, .int .i64 off, .int .i64 ro, .int .i64 rp, .int .i64 rq, .string rk, .string rv, .int .i64 pp, .int .i64 pe, .int .i64 pn, .slice D m d]] w fun e w' => e = .returned (.tuple #[.string ⟨(En.enc ⟨2, ⟨pid, ep, sq, tx, rs⟩, yes, nx, off, ⟨ro, rp, rq, rk, rv⟩, ⟨pp, pe, pn, sn⟩⟩).toArray⟩, .int .i64 0]) ∧ Below w.heap.size w w' := by
  obtain ⟨W0, hW0⟩ : ∃ W0, W0 = w.alloc (.cells #[.int .i8 2, .int .i64 pid, .int .i64 ep, .int .i64 sq, .bool tx, .slice A n c, .bool yes, .int .i64 nx, .int .i64 off, .int .i64 ro, .int .i64 rp, .int .i64 rq, .string rk, .string rv, .int .i64 pp, .int .i64 pe, .int .i64 pn, .slice D m d] 32) := ⟨_, rfl⟩
  have v0 : Var W0 w.heap.size 32 #[.int .i8 2, .int .i64 pid, .int .i64 ep, .int .i64 sq, .bool tx, .slice A n c, .bool yes, .int .i64 nx, .int .i64 off, .int .i64 ro, .int .i64 rp, .int .i64 rq, .string rk, .string rv, .int .i64 pp, .int .i64 pe, .int .i64 pn, .slice D m d] := by rw [hW0]; exact Var.new _ _ _
  have b0 : Below w.heap.size w W0 := by rw [hW0]; exact below_new _
  have HX := Lib.hid (hx.below (b0.mono hB))
  have hB0 := Nat.le_trans hB b0.size
  have HE : Hid ([] ++ encN [2] ++ En.body ⟨2, ⟨pid, ep, sq, tx, rs⟩, yes, nx, off, ⟨ro, rp, rq, rk, rv⟩, ⟨pp, pe, pn, sn⟩⟩ = En.enc ⟨2, ⟨pid, ep, sq, tx, rs⟩, yes, nx, off, ⟨ro, rp, rq, rk, rv⟩, ⟨pp, pe, pn, sn⟩⟩) := by show _ = _; simp [encN, En.enc]
  have HG := Lib.hid hg
  have HWR := Lib.hid hwr
  have HW0 := Lib.hid hW0
  clear hW0 hx hg hwr
  go_enter Tryz.func8, Tryz.ntmps8
  go_upto_region 1 with fail
  rw [← HW0.out]
  go_wp2_with (refine wpList_load_var rfl _ rfl Tryz.underlying32 rfl rfl v0 (by kernel_rfl) ?_)
  refine (emay_any ⟨2, ⟨pid, ep, sq, tx, rs⟩, yes, nx, off, ⟨ro, rp, rq, rk, rv⟩, ⟨pp, pe, pn, sn⟩⟩ A D n c m d B true W0 HX.out hB0 ⟨fun _ => HG.out, fun _ => rfl⟩).mono ?_
  rintro e w1 ⟨rfl, hb1⟩
  have b1 := b0.trans (hb1.mono b0.size)
  have v1 := v0.below hb1 v0.lt
  have HX1 := Lib.hid (HX.out.below (hb1.mono hB0))
  clear v0 HX HW0
  go_upto_region 4 with fail
  obtain ⟨g, hg⟩ : ∃ g, g = w1.heap.size := ⟨_, rfl⟩
  refine wp_at (C := fun W => Var W w.heap.size 32 #[.int .i8 2, .int .i64 pid, .int .i64 ep, .int .i64 sq, .bool tx, .slice A n c, .bool yes, .int .i64 nx, .int .i64 off, .int .i64 ro, .int .i64 rp, .int .i64 rq, .string rk, .string rv, .int .i64 pp, .int .i64 pe, .int .i64 pn, .slice D m d] ∧ Below w.heap.size w W ∧ EIn W B ⟨2, ⟨pid, ep, sq, tx, rs⟩, yes, nx, off, ⟨ro, rp, rq, rk, rv⟩, ⟨pp, pe, pn, sn⟩⟩ A n c D m d ∧ Wt W g []) ⟨v1.alloc _, b1.alloc b1.size _, HX1.out.below ((below_new _).mono (Nat.le_trans hB0 hb1.size)), ⟨.slice none 0 0, 0, by rw [hg]; exact Var.new _ _ _, World.ownsRow_nil _ _ _ _, rfl⟩⟩ ?_
  have hgw : w.heap.size < g := by rw [hg]; exact v1.lt
  clear v1 HX1
  rw [← hg]
  clear hg
  rintro W2 ⟨v2, b2, hx2, hw2⟩
  have HX2 := Lib.hid hx2
  clear hx2
  have hc := v2.cell 0 rfl
  have z2 := v2.lt
  go_wp2_with fail
  refine (numbers_new W2 g [] [2] 1 hw2 rfl (by simp) (by omega) (by simp)).mono ?_
  rintro e W3 ⟨rfl, hw3, q3⟩
  have v3 := v2.kept q3 (by simp; omega)
  have b3 := b2.trans (q3.below (by omega) (by simp; omega))
  have HX3 := Lib.hid (HX2.out.below (q3.below (B := B) (by have := b2.size; omega) (by simp; omega)))
  clear v2 hw2 HX2 q3 hc z2
  go_upto_region 5 with fail
  have h3 : Var W3.drew w.heap.size 32 #[.int .i8 2, .int .i64 pid, .int .i64 ep, .int .i64 sq, .bool tx, .slice A n c, .bool yes, .int .i64 nx, .int .i64 off, .int .i64 ro, .int .i64 rp, .int .i64 rq, .string rk, .string rv, .int .i64 pp, .int .i64 pe, .int .i64 pn, .slice D m d] := v3
  have hw3d : Wt W3.drew g ([] ++ encN [2]) := hw3
  have b3d : Below w.heap.size w W3.drew := b3.drew
  have HX3d : Hid (EIn W3.drew B ⟨2, ⟨pid, ep, sq, tx, rs⟩, yes, nx, off, ⟨ro, rp, rq, rk, rv⟩, ⟨pp, pe, pn, sn⟩⟩ A n c D m d) := HX3.out.below (Below.refl _ _).drew
  clear v3 hw3 b3 HX3
  refine wp_region_held_drew (S := fun w' => Var w' w.heap.size 32 #[.int .i8 2, .int .i64 pid, .int .i64 ep, .int .i64 sq, .bool tx, .slice A n c, .bool yes, .int .i64 nx, .int .i64 off, .int .i64 ro, .int .i64 rp, .int .i64 rq, .string rk, .string rv, .int .i64 pp, .int .i64 pe, .int .i64 pn, .slice D m d]) (by kernel_rfl) h3 (fun hHeld => ?_)
  refine fld_takes [1, 2, 5, 6] _ 4 _ _ _ (by kernel_rfl) (fun _ d _ _ _ h => by cases d <;> exact h) (by rfl) (by kernel_rfl) (by assumption) ?_
  refine fld_taken (v := ?_) rfl (by rfl) (fun w' hw' => ?_) ?_
  rotate_left
  · (go_simp <;> with_reducible rfl)
  simp only [Act.put, List.getElem_toArray, List.getElem_cons_succ, List.getElem_cons_zero, List.setIfInBounds_toArray, List.set_cons_zero, List.set_cons_succ]
  refine fld_taken (v := ?_) rfl (by rfl) (fun w' hw' => ?_) ?_
  rotate_left
  · have hc := hw'.cell 0 rfl
    go_simp <;> with_reducible rfl
  simp only [Act.put, List.getElem_toArray, List.getElem_cons_succ, List.getElem_cons_zero, List.setIfInBounds_toArray, List.set_cons_zero, List.set_cons_succ]
  refine fld_taken (v := ?_) rfl (by rfl) (fun w' hw' => ?_) ?_
  rotate_left
  · (go_simp <;> with_reducible rfl)
  simp only [Act.put, List.getElem_toArray, List.getElem_cons_succ, List.getElem_cons_zero, List.setIfInBounds_toArray, List.set_cons_zero, List.set_cons_succ]
  refine fld_taken (v := ?_) rfl (by rfl) (fun w' hw' => ?_) ?_
  rotate_left
  · refine exec_load_var (x := .tmp 1) ?_ ?_ hw' Tryz.underlying32 rfl (by kernel_rfl) <;> rfl
  simp only [Act.put, List.getElem_toArray, List.getElem_cons_succ, List.getElem_cons_zero, List.setIfInBounds_toArray, List.set_cons_zero, List.set_cons_succ]
  refine fld_taken_nil ?_
  refine fld_alone (i := 0) (by kernel_rfl) rfl (by rfl) (fun K hK => ?_)
  go_simp
  refine (kinds_any _).mono ?_
  rintro e W4 ⟨rfl, h4⟩
  have h5 : Var W4 w.heap.size 32 #[.int .i8 2, .int .i64 pid, .int .i64 ep, .int .i64 sq, .bool tx, .slice A n c, .bool yes, .int .i64 nx, .int .i64 off, .int .i64 ro, .int .i64 rp, .int .i64 rq, .string rk, .string rv, .int .i64 pp, .int .i64 pe, .int .i64 pn, .slice D m d] := h3.below h4 h3.lt
  have hw4 := hw3d.below h4
  have b4 := b3d.trans (h4.mono b3d.size)
  have HX4 := Lib.hid (HX3d.out.below (h4.mono (by have := b3d.size; omega)))
  simp only [kindsV]
  go_wp2_with fail
  refine hK.out _ _ h5 ?_
  clear hK K h3 hw3d b3d HX3d h4
  refine fld_takes [3, 4] _ 1 _ _ _ (by kernel_rfl) (fun _ d _ _ _ h => by cases d <;> exact h) (by rfl) (by kernel_rfl) (by assumption) ?_
  refine fld_taken (v := ?_) rfl (by rfl) (fun w' hw' => ?_) ?_
  rotate_left
  · (go_simp <;> with_reducible rfl)
  simp only [Act.put, List.getElem_toArray, List.getElem_cons_succ, List.getElem_cons_zero, List.setIfInBounds_toArray, List.set_cons_zero, List.set_cons_succ]
  refine fld_taken (v := ?_) rfl (by rfl) (fun w' hw' => ?_) ?_
  rotate_left
  · (go_simp <;> with_reducible rfl)
  simp only [Act.put, List.getElem_toArray, List.getElem_cons_succ, List.getElem_cons_zero, List.setIfInBounds_toArray, List.set_cons_zero, List.set_cons_succ]
  refine fld_taken_nil ?_
  refine fld_alone (i := 7) (by kernel_rfl) rfl (by rfl) (fun K hK => ?_)
  go_simp
  refine (HWR.out g _ W4 hw4 (by have := encN_le [2] (by simp); simp only [List.nil_append]; simp only [List.length_cons, List.length_nil] at this; omega) HX4.out (by omega)).mono ?_
  rintro e W5 ⟨rfl, hw5, k5⟩
  have h6 := k5.2 _ _ _ h5 (by omega) (by decide)
  have b6 := b4.trans (k5.1.mono (Nat.le_of_lt hgw))
  clear HX4 HWR k5 hw4 b4 h5
  rw [HE.out] at hw5
  go_wp2_with fail
  refine hK.out _ _ h6 ?_
  clear hK K h6 hHeld
  refine wpAnyH_done (by kernel_rfl) ?_ _
  obtain ⟨A2, c2, ly, hv, hs2, hly, hc2, -⟩ := hw5.get
  have hgr := hv.lt
  have p0 : W5.cell? ⟨g, 0, none⟩ = some (.slice A2 ly c2) := hv.cell 0 rfl
  have hst := str_now (P := Tryz.prog) hs2 58 9 5 ly c2 hly Tryz.underlying58 Tryz.underlying5 Tryz.underlying9
  clear hly hs2 hv hw5
  go_wp2
  go_ret2
  exact ⟨rfl, b6⟩

set_option maxRecDepth 100000 in
set_option maxHeartbeats 1000000 in
theorem ebytes_copied (pid ep sq nx off ro rp rq pp pe pn : Int) (tx yes : Bool) (rs : List Rc) (rk rv : ByteArray) (sn : List Sn) (A D : Option Addr) (n c m d B : Nat) (w : World) (hx : EIn w B ⟨3, ⟨pid, ep, sq, tx, rs⟩, yes, nx, off, ⟨ro, rp, rq, rk, rv⟩, ⟨pp, pe, pn, sn⟩⟩ A n c D m d) (hB : B ≤ w.heap.size) (hg : En.Good ⟨3, ⟨pid, ep, sq, tx, rs⟩, yes, nx, off, ⟨ro, rp, rq, rk, rv⟩, ⟨pp, pe, pn, sn⟩⟩) (hwr : Writes ⟨3, ⟨pid, ep, sq, tx, rs⟩, yes, nx, off, ⟨ro, rp, rq, rk, rv⟩, ⟨pp, pe, pn, sn⟩⟩ A D n c m d 64 B) :
    Calls Tryz.prog 8 #[.agg #[.int .i8 3, .int .i64 pid, .int .i64 ep, .int .i64 sq, .bool tx, .slice A n c, .bool yes, .int .i64 nx, .int .i64 off, .int .i64 ro, .int .i64 rp, .int .i64 rq, .string rk, .string rv, .int .i64 pp, .int .i64 pe, .int .i64 pn, .slice D m d]] w fun e w' => e = .returned (.tuple #[.string ⟨(En.enc ⟨3, ⟨pid, ep, sq, tx, rs⟩, yes, nx, off, ⟨ro, rp, rq, rk, rv⟩, ⟨pp, pe, pn, sn⟩⟩).toArray⟩, .int .i64 0]) ∧ Below w.heap.size w w' := by
  obtain ⟨W0, hW0⟩ : ∃ W0, W0 = w.alloc (.cells #[.int .i8 3, .int .i64 pid, .int .i64 ep, .int .i64 sq, .bool tx, .slice A n c, .bool yes, .int .i64 nx, .int .i64 off, .int .i64 ro, .int .i64 rp, .int .i64 rq, .string rk, .string rv, .int .i64 pp, .int .i64 pe, .int .i64 pn, .slice D m d] 32) := ⟨_, rfl⟩
  have v0 : Var W0 w.heap.size 32 #[.int .i8 3, .int .i64 pid, .int .i64 ep, .int .i64 sq, .bool tx, .slice A n c, .bool yes, .int .i64 nx, .int .i64 off, .int .i64 ro, .int .i64 rp, .int .i64 rq, .string rk, .string rv, .int .i64 pp, .int .i64 pe, .int .i64 pn, .slice D m d] := by rw [hW0]; exact Var.new _ _ _
  have b0 : Below w.heap.size w W0 := by rw [hW0]; exact below_new _
  have HX := Lib.hid (hx.below (b0.mono hB))
  have hB0 := Nat.le_trans hB b0.size
  have HE : Hid ([] ++ encN [3] ++ En.body ⟨3, ⟨pid, ep, sq, tx, rs⟩, yes, nx, off, ⟨ro, rp, rq, rk, rv⟩, ⟨pp, pe, pn, sn⟩⟩ = En.enc ⟨3, ⟨pid, ep, sq, tx, rs⟩, yes, nx, off, ⟨ro, rp, rq, rk, rv⟩, ⟨pp, pe, pn, sn⟩⟩) := by show _ = _; simp [encN, En.enc]
  have HG := Lib.hid hg
  have HWR := Lib.hid hwr
  have HW0 := Lib.hid hW0
  clear hW0 hx hg hwr
  go_enter Tryz.func8, Tryz.ntmps8
  go_upto_region 1 with fail
  rw [← HW0.out]
  go_wp2_with (refine wpList_load_var rfl _ rfl Tryz.underlying32 rfl rfl v0 (by kernel_rfl) ?_)
  refine (emay_any ⟨3, ⟨pid, ep, sq, tx, rs⟩, yes, nx, off, ⟨ro, rp, rq, rk, rv⟩, ⟨pp, pe, pn, sn⟩⟩ A D n c m d B true W0 HX.out hB0 ⟨fun _ => HG.out, fun _ => rfl⟩).mono ?_
  rintro e w1 ⟨rfl, hb1⟩
  have b1 := b0.trans (hb1.mono b0.size)
  have v1 := v0.below hb1 v0.lt
  have HX1 := Lib.hid (HX.out.below (hb1.mono hB0))
  clear v0 HX HW0
  go_upto_region 4 with fail
  obtain ⟨g, hg⟩ : ∃ g, g = w1.heap.size := ⟨_, rfl⟩
  refine wp_at (C := fun W => Var W w.heap.size 32 #[.int .i8 3, .int .i64 pid, .int .i64 ep, .int .i64 sq, .bool tx, .slice A n c, .bool yes, .int .i64 nx, .int .i64 off, .int .i64 ro, .int .i64 rp, .int .i64 rq, .string rk, .string rv, .int .i64 pp, .int .i64 pe, .int .i64 pn, .slice D m d] ∧ Below w.heap.size w W ∧ EIn W B ⟨3, ⟨pid, ep, sq, tx, rs⟩, yes, nx, off, ⟨ro, rp, rq, rk, rv⟩, ⟨pp, pe, pn, sn⟩⟩ A n c D m d ∧ Wt W g []) ⟨v1.alloc _, b1.alloc b1.size _, HX1.out.below ((below_new _).mono (Nat.le_trans hB0 hb1.size)), ⟨.slice none 0 0, 0, by rw [hg]; exact Var.new _ _ _, World.ownsRow_nil _ _ _ _, rfl⟩⟩ ?_
  have hgw : w.heap.size < g := by rw [hg]; exact v1.lt
  clear v1 HX1
  rw [← hg]
  clear hg
  rintro W2 ⟨v2, b2, hx2, hw2⟩
  have HX2 := Lib.hid hx2
  clear hx2
  have hc := v2.cell 0 rfl
  have z2 := v2.lt
  go_wp2_with fail
  refine (numbers_new W2 g [] [3] 1 hw2 rfl (by simp) (by omega) (by simp)).mono ?_
  rintro e W3 ⟨rfl, hw3, q3⟩
  have v3 := v2.kept q3 (by simp; omega)
  have b3 := b2.trans (q3.below (by omega) (by simp; omega))
  have HX3 := Lib.hid (HX2.out.below (q3.below (B := B) (by have := b2.size; omega) (by simp; omega)))
  clear v2 hw2 HX2 q3 hc z2
  go_upto_region 5 with fail
  have h3 : Var W3.drew w.heap.size 32 #[.int .i8 3, .int .i64 pid, .int .i64 ep, .int .i64 sq, .bool tx, .slice A n c, .bool yes, .int .i64 nx, .int .i64 off, .int .i64 ro, .int .i64 rp, .int .i64 rq, .string rk, .string rv, .int .i64 pp, .int .i64 pe, .int .i64 pn, .slice D m d] := v3
  have hw3d : Wt W3.drew g ([] ++ encN [3]) := hw3
  have b3d : Below w.heap.size w W3.drew := b3.drew
  have HX3d : Hid (EIn W3.drew B ⟨3, ⟨pid, ep, sq, tx, rs⟩, yes, nx, off, ⟨ro, rp, rq, rk, rv⟩, ⟨pp, pe, pn, sn⟩⟩ A n c D m d) := HX3.out.below (Below.refl _ _).drew
  clear v3 hw3 b3 HX3
  refine wp_region_held_drew (S := fun w' => Var w' w.heap.size 32 #[.int .i8 3, .int .i64 pid, .int .i64 ep, .int .i64 sq, .bool tx, .slice A n c, .bool yes, .int .i64 nx, .int .i64 off, .int .i64 ro, .int .i64 rp, .int .i64 rq, .string rk, .string rv, .int .i64 pp, .int .i64 pe, .int .i64 pn, .slice D m d]) (by kernel_rfl) h3 (fun hHeld => ?_)
  refine fld_takes [1, 2, 5, 6] _ 4 _ _ _ (by kernel_rfl) (fun _ d _ _ _ h => by cases d <;> exact h) (by rfl) (by kernel_rfl) (by assumption) ?_
  refine fld_taken (v := ?_) rfl (by rfl) (fun w' hw' => ?_) ?_
  rotate_left
  · (go_simp <;> with_reducible rfl)
  simp only [Act.put, List.getElem_toArray, List.getElem_cons_succ, List.getElem_cons_zero, List.setIfInBounds_toArray, List.set_cons_zero, List.set_cons_succ]
  refine fld_taken (v := ?_) rfl (by rfl) (fun w' hw' => ?_) ?_
  rotate_left
  · have hc := hw'.cell 0 rfl
    go_simp <;> with_reducible rfl
  simp only [Act.put, List.getElem_toArray, List.getElem_cons_succ, List.getElem_cons_zero, List.setIfInBounds_toArray, List.set_cons_zero, List.set_cons_succ]
  refine fld_taken (v := ?_) rfl (by rfl) (fun w' hw' => ?_) ?_
  rotate_left
  · (go_simp <;> with_reducible rfl)
  simp only [Act.put, List.getElem_toArray, List.getElem_cons_succ, List.getElem_cons_zero, List.setIfInBounds_toArray, List.set_cons_zero, List.set_cons_succ]
  refine fld_taken (v := ?_) rfl (by rfl) (fun w' hw' => ?_) ?_
  rotate_left
  · refine exec_load_var (x := .tmp 1) ?_ ?_ hw' Tryz.underlying32 rfl (by kernel_rfl) <;> rfl
  simp only [Act.put, List.getElem_toArray, List.getElem_cons_succ, List.getElem_cons_zero, List.setIfInBounds_toArray, List.set_cons_zero, List.set_cons_succ]
  refine fld_taken_nil ?_
  refine fld_alone (i := 0) (by kernel_rfl) rfl (by rfl) (fun K hK => ?_)
  go_simp
  refine (kinds_any _).mono ?_
  rintro e W4 ⟨rfl, h4⟩
  have h5 : Var W4 w.heap.size 32 #[.int .i8 3, .int .i64 pid, .int .i64 ep, .int .i64 sq, .bool tx, .slice A n c, .bool yes, .int .i64 nx, .int .i64 off, .int .i64 ro, .int .i64 rp, .int .i64 rq, .string rk, .string rv, .int .i64 pp, .int .i64 pe, .int .i64 pn, .slice D m d] := h3.below h4 h3.lt
  have hw4 := hw3d.below h4
  have b4 := b3d.trans (h4.mono b3d.size)
  have HX4 := Lib.hid (HX3d.out.below (h4.mono (by have := b3d.size; omega)))
  simp only [kindsV]
  go_wp2_with fail
  refine hK.out _ _ h5 ?_
  clear hK K h3 hw3d b3d HX3d h4
  refine fld_takes [3, 4] _ 1 _ _ _ (by kernel_rfl) (fun _ d _ _ _ h => by cases d <;> exact h) (by rfl) (by kernel_rfl) (by assumption) ?_
  refine fld_taken (v := ?_) rfl (by rfl) (fun w' hw' => ?_) ?_
  rotate_left
  · (go_simp <;> with_reducible rfl)
  simp only [Act.put, List.getElem_toArray, List.getElem_cons_succ, List.getElem_cons_zero, List.setIfInBounds_toArray, List.set_cons_zero, List.set_cons_succ]
  refine fld_taken (v := ?_) rfl (by rfl) (fun w' hw' => ?_) ?_
  rotate_left
  · (go_simp <;> with_reducible rfl)
  simp only [Act.put, List.getElem_toArray, List.getElem_cons_succ, List.getElem_cons_zero, List.setIfInBounds_toArray, List.set_cons_zero, List.set_cons_succ]
  refine fld_taken_nil ?_
  refine fld_alone (i := 7) (by kernel_rfl) rfl (by rfl) (fun K hK => ?_)
  go_simp
  refine (HWR.out g _ W4 hw4 (by have := encN_le [3] (by simp); simp only [List.nil_append]; simp only [List.length_cons, List.length_nil] at this; omega) HX4.out (by omega)).mono ?_
  rintro e W5 ⟨rfl, hw5, k5⟩
  have h6 := k5.2 _ _ _ h5 (by omega) (by decide)
  have b6 := b4.trans (k5.1.mono (Nat.le_of_lt hgw))
  clear HX4 HWR k5 hw4 b4 h5
  rw [HE.out] at hw5
  go_wp2_with fail
  refine hK.out _ _ h6 ?_
  clear hK K h6 hHeld
  refine wpAnyH_done (by kernel_rfl) ?_ _
  obtain ⟨A2, c2, ly, hv, hs2, hly, hc2, -⟩ := hw5.get
  have hgr := hv.lt
  have p0 : W5.cell? ⟨g, 0, none⟩ = some (.slice A2 ly c2) := hv.cell 0 rfl
  have hst := str_now (P := Tryz.prog) hs2 58 9 5 ly c2 hly Tryz.underlying58 Tryz.underlying5 Tryz.underlying9
  clear hly hs2 hv hw5
  go_wp2
  go_ret2
  exact ⟨rfl, b6⟩

set_option maxRecDepth 100000 in
set_option maxHeartbeats 1000000 in
theorem ebytes_drop (pid ep sq nx off ro rp rq pp pe pn : Int) (tx yes : Bool) (rs : List Rc) (rk rv : ByteArray) (sn : List Sn) (A D : Option Addr) (n c m d B : Nat) (w : World) (hx : EIn w B ⟨4, ⟨pid, ep, sq, tx, rs⟩, yes, nx, off, ⟨ro, rp, rq, rk, rv⟩, ⟨pp, pe, pn, sn⟩⟩ A n c D m d) (hB : B ≤ w.heap.size) (hg : En.Good ⟨4, ⟨pid, ep, sq, tx, rs⟩, yes, nx, off, ⟨ro, rp, rq, rk, rv⟩, ⟨pp, pe, pn, sn⟩⟩) (hwr : Writes ⟨4, ⟨pid, ep, sq, tx, rs⟩, yes, nx, off, ⟨ro, rp, rq, rk, rv⟩, ⟨pp, pe, pn, sn⟩⟩ A D n c m d 66 B) :
    Calls Tryz.prog 8 #[.agg #[.int .i8 4, .int .i64 pid, .int .i64 ep, .int .i64 sq, .bool tx, .slice A n c, .bool yes, .int .i64 nx, .int .i64 off, .int .i64 ro, .int .i64 rp, .int .i64 rq, .string rk, .string rv, .int .i64 pp, .int .i64 pe, .int .i64 pn, .slice D m d]] w fun e w' => e = .returned (.tuple #[.string ⟨(En.enc ⟨4, ⟨pid, ep, sq, tx, rs⟩, yes, nx, off, ⟨ro, rp, rq, rk, rv⟩, ⟨pp, pe, pn, sn⟩⟩).toArray⟩, .int .i64 0]) ∧ Below w.heap.size w w' := by
  obtain ⟨W0, hW0⟩ : ∃ W0, W0 = w.alloc (.cells #[.int .i8 4, .int .i64 pid, .int .i64 ep, .int .i64 sq, .bool tx, .slice A n c, .bool yes, .int .i64 nx, .int .i64 off, .int .i64 ro, .int .i64 rp, .int .i64 rq, .string rk, .string rv, .int .i64 pp, .int .i64 pe, .int .i64 pn, .slice D m d] 32) := ⟨_, rfl⟩
  have v0 : Var W0 w.heap.size 32 #[.int .i8 4, .int .i64 pid, .int .i64 ep, .int .i64 sq, .bool tx, .slice A n c, .bool yes, .int .i64 nx, .int .i64 off, .int .i64 ro, .int .i64 rp, .int .i64 rq, .string rk, .string rv, .int .i64 pp, .int .i64 pe, .int .i64 pn, .slice D m d] := by rw [hW0]; exact Var.new _ _ _
  have b0 : Below w.heap.size w W0 := by rw [hW0]; exact below_new _
  have HX := Lib.hid (hx.below (b0.mono hB))
  have hB0 := Nat.le_trans hB b0.size
  have HE : Hid ([] ++ encN [4] ++ En.body ⟨4, ⟨pid, ep, sq, tx, rs⟩, yes, nx, off, ⟨ro, rp, rq, rk, rv⟩, ⟨pp, pe, pn, sn⟩⟩ = En.enc ⟨4, ⟨pid, ep, sq, tx, rs⟩, yes, nx, off, ⟨ro, rp, rq, rk, rv⟩, ⟨pp, pe, pn, sn⟩⟩) := by show _ = _; simp [encN, En.enc]
  have HG := Lib.hid hg
  have HWR := Lib.hid hwr
  have HW0 := Lib.hid hW0
  clear hW0 hx hg hwr
  go_enter Tryz.func8, Tryz.ntmps8
  go_upto_region 1 with fail
  rw [← HW0.out]
  go_wp2_with (refine wpList_load_var rfl _ rfl Tryz.underlying32 rfl rfl v0 (by kernel_rfl) ?_)
  refine (emay_any ⟨4, ⟨pid, ep, sq, tx, rs⟩, yes, nx, off, ⟨ro, rp, rq, rk, rv⟩, ⟨pp, pe, pn, sn⟩⟩ A D n c m d B true W0 HX.out hB0 ⟨fun _ => HG.out, fun _ => rfl⟩).mono ?_
  rintro e w1 ⟨rfl, hb1⟩
  have b1 := b0.trans (hb1.mono b0.size)
  have v1 := v0.below hb1 v0.lt
  have HX1 := Lib.hid (HX.out.below (hb1.mono hB0))
  clear v0 HX HW0
  go_upto_region 4 with fail
  obtain ⟨g, hg⟩ : ∃ g, g = w1.heap.size := ⟨_, rfl⟩
  refine wp_at (C := fun W => Var W w.heap.size 32 #[.int .i8 4, .int .i64 pid, .int .i64 ep, .int .i64 sq, .bool tx, .slice A n c, .bool yes, .int .i64 nx, .int .i64 off, .int .i64 ro, .int .i64 rp, .int .i64 rq, .string rk, .string rv, .int .i64 pp, .int .i64 pe, .int .i64 pn, .slice D m d] ∧ Below w.heap.size w W ∧ EIn W B ⟨4, ⟨pid, ep, sq, tx, rs⟩, yes, nx, off, ⟨ro, rp, rq, rk, rv⟩, ⟨pp, pe, pn, sn⟩⟩ A n c D m d ∧ Wt W g []) ⟨v1.alloc _, b1.alloc b1.size _, HX1.out.below ((below_new _).mono (Nat.le_trans hB0 hb1.size)), ⟨.slice none 0 0, 0, by rw [hg]; exact Var.new _ _ _, World.ownsRow_nil _ _ _ _, rfl⟩⟩ ?_
  have hgw : w.heap.size < g := by rw [hg]; exact v1.lt
  clear v1 HX1
  rw [← hg]
  clear hg
  rintro W2 ⟨v2, b2, hx2, hw2⟩
  have HX2 := Lib.hid hx2
  clear hx2
  have hc := v2.cell 0 rfl
  have z2 := v2.lt
  go_wp2_with fail
  refine (numbers_new W2 g [] [4] 1 hw2 rfl (by simp) (by omega) (by simp)).mono ?_
  rintro e W3 ⟨rfl, hw3, q3⟩
  have v3 := v2.kept q3 (by simp; omega)
  have b3 := b2.trans (q3.below (by omega) (by simp; omega))
  have HX3 := Lib.hid (HX2.out.below (q3.below (B := B) (by have := b2.size; omega) (by simp; omega)))
  clear v2 hw2 HX2 q3 hc z2
  go_upto_region 5 with fail
  have h3 : Var W3.drew w.heap.size 32 #[.int .i8 4, .int .i64 pid, .int .i64 ep, .int .i64 sq, .bool tx, .slice A n c, .bool yes, .int .i64 nx, .int .i64 off, .int .i64 ro, .int .i64 rp, .int .i64 rq, .string rk, .string rv, .int .i64 pp, .int .i64 pe, .int .i64 pn, .slice D m d] := v3
  have hw3d : Wt W3.drew g ([] ++ encN [4]) := hw3
  have b3d : Below w.heap.size w W3.drew := b3.drew
  have HX3d : Hid (EIn W3.drew B ⟨4, ⟨pid, ep, sq, tx, rs⟩, yes, nx, off, ⟨ro, rp, rq, rk, rv⟩, ⟨pp, pe, pn, sn⟩⟩ A n c D m d) := HX3.out.below (Below.refl _ _).drew
  clear v3 hw3 b3 HX3
  refine wp_region_held_drew (S := fun w' => Var w' w.heap.size 32 #[.int .i8 4, .int .i64 pid, .int .i64 ep, .int .i64 sq, .bool tx, .slice A n c, .bool yes, .int .i64 nx, .int .i64 off, .int .i64 ro, .int .i64 rp, .int .i64 rq, .string rk, .string rv, .int .i64 pp, .int .i64 pe, .int .i64 pn, .slice D m d]) (by kernel_rfl) h3 (fun hHeld => ?_)
  refine fld_takes [1, 2, 5, 6] _ 4 _ _ _ (by kernel_rfl) (fun _ d _ _ _ h => by cases d <;> exact h) (by rfl) (by kernel_rfl) (by assumption) ?_
  refine fld_taken (v := ?_) rfl (by rfl) (fun w' hw' => ?_) ?_
  rotate_left
  · (go_simp <;> with_reducible rfl)
  simp only [Act.put, List.getElem_toArray, List.getElem_cons_succ, List.getElem_cons_zero, List.setIfInBounds_toArray, List.set_cons_zero, List.set_cons_succ]
  refine fld_taken (v := ?_) rfl (by rfl) (fun w' hw' => ?_) ?_
  rotate_left
  · have hc := hw'.cell 0 rfl
    go_simp <;> with_reducible rfl
  simp only [Act.put, List.getElem_toArray, List.getElem_cons_succ, List.getElem_cons_zero, List.setIfInBounds_toArray, List.set_cons_zero, List.set_cons_succ]
  refine fld_taken (v := ?_) rfl (by rfl) (fun w' hw' => ?_) ?_
  rotate_left
  · (go_simp <;> with_reducible rfl)
  simp only [Act.put, List.getElem_toArray, List.getElem_cons_succ, List.getElem_cons_zero, List.setIfInBounds_toArray, List.set_cons_zero, List.set_cons_succ]
  refine fld_taken (v := ?_) rfl (by rfl) (fun w' hw' => ?_) ?_
  rotate_left
  · refine exec_load_var (x := .tmp 1) ?_ ?_ hw' Tryz.underlying32 rfl (by kernel_rfl) <;> rfl
  simp only [Act.put, List.getElem_toArray, List.getElem_cons_succ, List.getElem_cons_zero, List.setIfInBounds_toArray, List.set_cons_zero, List.set_cons_succ]
  refine fld_taken_nil ?_
  refine fld_alone (i := 0) (by kernel_rfl) rfl (by rfl) (fun K hK => ?_)
  go_simp
  refine (kinds_any _).mono ?_
  rintro e W4 ⟨rfl, h4⟩
  have h5 : Var W4 w.heap.size 32 #[.int .i8 4, .int .i64 pid, .int .i64 ep, .int .i64 sq, .bool tx, .slice A n c, .bool yes, .int .i64 nx, .int .i64 off, .int .i64 ro, .int .i64 rp, .int .i64 rq, .string rk, .string rv, .int .i64 pp, .int .i64 pe, .int .i64 pn, .slice D m d] := h3.below h4 h3.lt
  have hw4 := hw3d.below h4
  have b4 := b3d.trans (h4.mono b3d.size)
  have HX4 := Lib.hid (HX3d.out.below (h4.mono (by have := b3d.size; omega)))
  simp only [kindsV]
  go_wp2_with fail
  refine hK.out _ _ h5 ?_
  clear hK K h3 hw3d b3d HX3d h4
  refine fld_takes [3, 4] _ 1 _ _ _ (by kernel_rfl) (fun _ d _ _ _ h => by cases d <;> exact h) (by rfl) (by kernel_rfl) (by assumption) ?_
  refine fld_taken (v := ?_) rfl (by rfl) (fun w' hw' => ?_) ?_
  rotate_left
  · (go_simp <;> with_reducible rfl)
  simp only [Act.put, List.getElem_toArray, List.getElem_cons_succ, List.getElem_cons_zero, List.setIfInBounds_toArray, List.set_cons_zero, List.set_cons_succ]
  refine fld_taken (v := ?_) rfl (by rfl) (fun w' hw' => ?_) ?_
  rotate_left
  · (go_simp <;> with_reducible rfl)
  simp only [Act.put, List.getElem_toArray, List.getElem_cons_succ, List.getElem_cons_zero, List.setIfInBounds_toArray, List.set_cons_zero, List.set_cons_succ]
  refine fld_taken_nil ?_
  refine fld_alone (i := 7) (by kernel_rfl) rfl (by rfl) (fun K hK => ?_)
  go_simp
  refine (HWR.out g _ W4 hw4 (by have := encN_le [4] (by simp); simp only [List.nil_append]; simp only [List.length_cons, List.length_nil] at this; omega) HX4.out (by omega)).mono ?_
  rintro e W5 ⟨rfl, hw5, k5⟩
  have h6 := k5.2 _ _ _ h5 (by omega) (by decide)
  have b6 := b4.trans (k5.1.mono (Nat.le_of_lt hgw))
  clear HX4 HWR k5 hw4 b4 h5
  rw [HE.out] at hw5
  go_wp2_with fail
  refine hK.out _ _ h6 ?_
  clear hK K h6 hHeld
  refine wpAnyH_done (by kernel_rfl) ?_ _
  obtain ⟨A2, c2, ly, hv, hs2, hly, hc2, -⟩ := hw5.get
  have hgr := hv.lt
  have p0 : W5.cell? ⟨g, 0, none⟩ = some (.slice A2 ly c2) := hv.cell 0 rfl
  have hst := str_now (P := Tryz.prog) hs2 58 9 5 ly c2 hly Tryz.underlying58 Tryz.underlying5 Tryz.underlying9
  clear hly hs2 hv hw5
  go_wp2
  go_ret2
  exact ⟨rfl, b6⟩

set_option maxRecDepth 100000 in
set_option maxHeartbeats 1000000 in
theorem ebytes_row (pid ep sq nx off ro rp rq pp pe pn : Int) (tx yes : Bool) (rs : List Rc) (rk rv : ByteArray) (sn : List Sn) (A D : Option Addr) (n c m d B : Nat) (w : World) (hx : EIn w B ⟨5, ⟨pid, ep, sq, tx, rs⟩, yes, nx, off, ⟨ro, rp, rq, rk, rv⟩, ⟨pp, pe, pn, sn⟩⟩ A n c D m d) (hB : B ≤ w.heap.size) (hg : En.Good ⟨5, ⟨pid, ep, sq, tx, rs⟩, yes, nx, off, ⟨ro, rp, rq, rk, rv⟩, ⟨pp, pe, pn, sn⟩⟩) (hwr : Writes ⟨5, ⟨pid, ep, sq, tx, rs⟩, yes, nx, off, ⟨ro, rp, rq, rk, rv⟩, ⟨pp, pe, pn, sn⟩⟩ A D n c m d 68 B) :
    Calls Tryz.prog 8 #[.agg #[.int .i8 5, .int .i64 pid, .int .i64 ep, .int .i64 sq, .bool tx, .slice A n c, .bool yes, .int .i64 nx, .int .i64 off, .int .i64 ro, .int .i64 rp, .int .i64 rq, .string rk, .string rv, .int .i64 pp, .int .i64 pe, .int .i64 pn, .slice D m d]] w fun e w' => e = .returned (.tuple #[.string ⟨(En.enc ⟨5, ⟨pid, ep, sq, tx, rs⟩, yes, nx, off, ⟨ro, rp, rq, rk, rv⟩, ⟨pp, pe, pn, sn⟩⟩).toArray⟩, .int .i64 0]) ∧ Below w.heap.size w w' := by
  obtain ⟨W0, hW0⟩ : ∃ W0, W0 = w.alloc (.cells #[.int .i8 5, .int .i64 pid, .int .i64 ep, .int .i64 sq, .bool tx, .slice A n c, .bool yes, .int .i64 nx, .int .i64 off, .int .i64 ro, .int .i64 rp, .int .i64 rq, .string rk, .string rv, .int .i64 pp, .int .i64 pe, .int .i64 pn, .slice D m d] 32) := ⟨_, rfl⟩
  have v0 : Var W0 w.heap.size 32 #[.int .i8 5, .int .i64 pid, .int .i64 ep, .int .i64 sq, .bool tx, .slice A n c, .bool yes, .int .i64 nx, .int .i64 off, .int .i64 ro, .int .i64 rp, .int .i64 rq, .string rk, .string rv, .int .i64 pp, .int .i64 pe, .int .i64 pn, .slice D m d] := by rw [hW0]; exact Var.new _ _ _
  have b0 : Below w.heap.size w W0 := by rw [hW0]; exact below_new _
  have HX := Lib.hid (hx.below (b0.mono hB))
  have hB0 := Nat.le_trans hB b0.size
  have HE : Hid ([] ++ encN [5] ++ En.body ⟨5, ⟨pid, ep, sq, tx, rs⟩, yes, nx, off, ⟨ro, rp, rq, rk, rv⟩, ⟨pp, pe, pn, sn⟩⟩ = En.enc ⟨5, ⟨pid, ep, sq, tx, rs⟩, yes, nx, off, ⟨ro, rp, rq, rk, rv⟩, ⟨pp, pe, pn, sn⟩⟩) := by show _ = _; simp [encN, En.enc]
  have HG := Lib.hid hg
  have HWR := Lib.hid hwr
  have HW0 := Lib.hid hW0
  clear hW0 hx hg hwr
  go_enter Tryz.func8, Tryz.ntmps8
  go_upto_region 1 with fail
  rw [← HW0.out]
  go_wp2_with (refine wpList_load_var rfl _ rfl Tryz.underlying32 rfl rfl v0 (by kernel_rfl) ?_)
  refine (emay_any ⟨5, ⟨pid, ep, sq, tx, rs⟩, yes, nx, off, ⟨ro, rp, rq, rk, rv⟩, ⟨pp, pe, pn, sn⟩⟩ A D n c m d B true W0 HX.out hB0 ⟨fun _ => HG.out, fun _ => rfl⟩).mono ?_
  rintro e w1 ⟨rfl, hb1⟩
  have b1 := b0.trans (hb1.mono b0.size)
  have v1 := v0.below hb1 v0.lt
  have HX1 := Lib.hid (HX.out.below (hb1.mono hB0))
  clear v0 HX HW0
  go_upto_region 4 with fail
  obtain ⟨g, hg⟩ : ∃ g, g = w1.heap.size := ⟨_, rfl⟩
  refine wp_at (C := fun W => Var W w.heap.size 32 #[.int .i8 5, .int .i64 pid, .int .i64 ep, .int .i64 sq, .bool tx, .slice A n c, .bool yes, .int .i64 nx, .int .i64 off, .int .i64 ro, .int .i64 rp, .int .i64 rq, .string rk, .string rv, .int .i64 pp, .int .i64 pe, .int .i64 pn, .slice D m d] ∧ Below w.heap.size w W ∧ EIn W B ⟨5, ⟨pid, ep, sq, tx, rs⟩, yes, nx, off, ⟨ro, rp, rq, rk, rv⟩, ⟨pp, pe, pn, sn⟩⟩ A n c D m d ∧ Wt W g []) ⟨v1.alloc _, b1.alloc b1.size _, HX1.out.below ((below_new _).mono (Nat.le_trans hB0 hb1.size)), ⟨.slice none 0 0, 0, by rw [hg]; exact Var.new _ _ _, World.ownsRow_nil _ _ _ _, rfl⟩⟩ ?_
  have hgw : w.heap.size < g := by rw [hg]; exact v1.lt
  clear v1 HX1
  rw [← hg]
  clear hg
  rintro W2 ⟨v2, b2, hx2, hw2⟩
  have HX2 := Lib.hid hx2
  clear hx2
  have hc := v2.cell 0 rfl
  have z2 := v2.lt
  go_wp2_with fail
  refine (numbers_new W2 g [] [5] 1 hw2 rfl (by simp) (by omega) (by simp)).mono ?_
  rintro e W3 ⟨rfl, hw3, q3⟩
  have v3 := v2.kept q3 (by simp; omega)
  have b3 := b2.trans (q3.below (by omega) (by simp; omega))
  have HX3 := Lib.hid (HX2.out.below (q3.below (B := B) (by have := b2.size; omega) (by simp; omega)))
  clear v2 hw2 HX2 q3 hc z2
  go_upto_region 5 with fail
  have h3 : Var W3.drew w.heap.size 32 #[.int .i8 5, .int .i64 pid, .int .i64 ep, .int .i64 sq, .bool tx, .slice A n c, .bool yes, .int .i64 nx, .int .i64 off, .int .i64 ro, .int .i64 rp, .int .i64 rq, .string rk, .string rv, .int .i64 pp, .int .i64 pe, .int .i64 pn, .slice D m d] := v3
  have hw3d : Wt W3.drew g ([] ++ encN [5]) := hw3
  have b3d : Below w.heap.size w W3.drew := b3.drew
  have HX3d : Hid (EIn W3.drew B ⟨5, ⟨pid, ep, sq, tx, rs⟩, yes, nx, off, ⟨ro, rp, rq, rk, rv⟩, ⟨pp, pe, pn, sn⟩⟩ A n c D m d) := HX3.out.below (Below.refl _ _).drew
  clear v3 hw3 b3 HX3
  refine wp_region_held_drew (S := fun w' => Var w' w.heap.size 32 #[.int .i8 5, .int .i64 pid, .int .i64 ep, .int .i64 sq, .bool tx, .slice A n c, .bool yes, .int .i64 nx, .int .i64 off, .int .i64 ro, .int .i64 rp, .int .i64 rq, .string rk, .string rv, .int .i64 pp, .int .i64 pe, .int .i64 pn, .slice D m d]) (by kernel_rfl) h3 (fun hHeld => ?_)
  refine fld_takes [1, 2, 5, 6] _ 4 _ _ _ (by kernel_rfl) (fun _ d _ _ _ h => by cases d <;> exact h) (by rfl) (by kernel_rfl) (by assumption) ?_
  refine fld_taken (v := ?_) rfl (by rfl) (fun w' hw' => ?_) ?_
  rotate_left
  · (go_simp <;> with_reducible rfl)
  simp only [Act.put, List.getElem_toArray, List.getElem_cons_succ, List.getElem_cons_zero, List.setIfInBounds_toArray, List.set_cons_zero, List.set_cons_succ]
  refine fld_taken (v := ?_) rfl (by rfl) (fun w' hw' => ?_) ?_
  rotate_left
  · have hc := hw'.cell 0 rfl
    go_simp <;> with_reducible rfl
  simp only [Act.put, List.getElem_toArray, List.getElem_cons_succ, List.getElem_cons_zero, List.setIfInBounds_toArray, List.set_cons_zero, List.set_cons_succ]
  refine fld_taken (v := ?_) rfl (by rfl) (fun w' hw' => ?_) ?_
  rotate_left
  · (go_simp <;> with_reducible rfl)
  simp only [Act.put, List.getElem_toArray, List.getElem_cons_succ, List.getElem_cons_zero, List.setIfInBounds_toArray, List.set_cons_zero, List.set_cons_succ]
  refine fld_taken (v := ?_) rfl (by rfl) (fun w' hw' => ?_) ?_
  rotate_left
  · refine exec_load_var (x := .tmp 1) ?_ ?_ hw' Tryz.underlying32 rfl (by kernel_rfl) <;> rfl
  simp only [Act.put, List.getElem_toArray, List.getElem_cons_succ, List.getElem_cons_zero, List.setIfInBounds_toArray, List.set_cons_zero, List.set_cons_succ]
  refine fld_taken_nil ?_
  refine fld_alone (i := 0) (by kernel_rfl) rfl (by rfl) (fun K hK => ?_)
  go_simp
  refine (kinds_any _).mono ?_
  rintro e W4 ⟨rfl, h4⟩
  have h5 : Var W4 w.heap.size 32 #[.int .i8 5, .int .i64 pid, .int .i64 ep, .int .i64 sq, .bool tx, .slice A n c, .bool yes, .int .i64 nx, .int .i64 off, .int .i64 ro, .int .i64 rp, .int .i64 rq, .string rk, .string rv, .int .i64 pp, .int .i64 pe, .int .i64 pn, .slice D m d] := h3.below h4 h3.lt
  have hw4 := hw3d.below h4
  have b4 := b3d.trans (h4.mono b3d.size)
  have HX4 := Lib.hid (HX3d.out.below (h4.mono (by have := b3d.size; omega)))
  simp only [kindsV]
  go_wp2_with fail
  refine hK.out _ _ h5 ?_
  clear hK K h3 hw3d b3d HX3d h4
  refine fld_takes [3, 4] _ 1 _ _ _ (by kernel_rfl) (fun _ d _ _ _ h => by cases d <;> exact h) (by rfl) (by kernel_rfl) (by assumption) ?_
  refine fld_taken (v := ?_) rfl (by rfl) (fun w' hw' => ?_) ?_
  rotate_left
  · (go_simp <;> with_reducible rfl)
  simp only [Act.put, List.getElem_toArray, List.getElem_cons_succ, List.getElem_cons_zero, List.setIfInBounds_toArray, List.set_cons_zero, List.set_cons_succ]
  refine fld_taken (v := ?_) rfl (by rfl) (fun w' hw' => ?_) ?_
  rotate_left
  · (go_simp <;> with_reducible rfl)
  simp only [Act.put, List.getElem_toArray, List.getElem_cons_succ, List.getElem_cons_zero, List.setIfInBounds_toArray, List.set_cons_zero, List.set_cons_succ]
  refine fld_taken_nil ?_
  refine fld_alone (i := 7) (by kernel_rfl) rfl (by rfl) (fun K hK => ?_)
  go_simp
  refine (HWR.out g _ W4 hw4 (by have := encN_le [5] (by simp); simp only [List.nil_append]; simp only [List.length_cons, List.length_nil] at this; omega) HX4.out (by omega)).mono ?_
  rintro e W5 ⟨rfl, hw5, k5⟩
  have h6 := k5.2 _ _ _ h5 (by omega) (by decide)
  have b6 := b4.trans (k5.1.mono (Nat.le_of_lt hgw))
  clear HX4 HWR k5 hw4 b4 h5
  rw [HE.out] at hw5
  go_wp2_with fail
  refine hK.out _ _ h6 ?_
  clear hK K h6 hHeld
  refine wpAnyH_done (by kernel_rfl) ?_ _
  obtain ⟨A2, c2, ly, hv, hs2, hly, hc2, -⟩ := hw5.get
  have hgr := hv.lt
  have p0 : W5.cell? ⟨g, 0, none⟩ = some (.slice A2 ly c2) := hv.cell 0 rfl
  have hst := str_now (P := Tryz.prog) hs2 58 9 5 ly c2 hly Tryz.underlying58 Tryz.underlying5 Tryz.underlying9
  clear hly hs2 hv hw5
  go_wp2
  go_ret2
  exact ⟨rfl, b6⟩

set_option maxRecDepth 100000 in
set_option maxHeartbeats 1000000 in
theorem ebytes_state (pid ep sq nx off ro rp rq pp pe pn : Int) (tx yes : Bool) (rs : List Rc) (rk rv : ByteArray) (sn : List Sn) (A D : Option Addr) (n c m d B : Nat) (w : World) (hx : EIn w B ⟨6, ⟨pid, ep, sq, tx, rs⟩, yes, nx, off, ⟨ro, rp, rq, rk, rv⟩, ⟨pp, pe, pn, sn⟩⟩ A n c D m d) (hB : B ≤ w.heap.size) (hg : En.Good ⟨6, ⟨pid, ep, sq, tx, rs⟩, yes, nx, off, ⟨ro, rp, rq, rk, rv⟩, ⟨pp, pe, pn, sn⟩⟩) (hwr : Writes ⟨6, ⟨pid, ep, sq, tx, rs⟩, yes, nx, off, ⟨ro, rp, rq, rk, rv⟩, ⟨pp, pe, pn, sn⟩⟩ A D n c m d 70 B) :
    Calls Tryz.prog 8 #[.agg #[.int .i8 6, .int .i64 pid, .int .i64 ep, .int .i64 sq, .bool tx, .slice A n c, .bool yes, .int .i64 nx, .int .i64 off, .int .i64 ro, .int .i64 rp, .int .i64 rq, .string rk, .string rv, .int .i64 pp, .int .i64 pe, .int .i64 pn, .slice D m d]] w fun e w' => e = .returned (.tuple #[.string ⟨(En.enc ⟨6, ⟨pid, ep, sq, tx, rs⟩, yes, nx, off, ⟨ro, rp, rq, rk, rv⟩, ⟨pp, pe, pn, sn⟩⟩).toArray⟩, .int .i64 0]) ∧ Below w.heap.size w w' := by
  obtain ⟨W0, hW0⟩ : ∃ W0, W0 = w.alloc (.cells #[.int .i8 6, .int .i64 pid, .int .i64 ep, .int .i64 sq, .bool tx, .slice A n c, .bool yes, .int .i64 nx, .int .i64 off, .int .i64 ro, .int .i64 rp, .int .i64 rq, .string rk, .string rv, .int .i64 pp, .int .i64 pe, .int .i64 pn, .slice D m d] 32) := ⟨_, rfl⟩
  have v0 : Var W0 w.heap.size 32 #[.int .i8 6, .int .i64 pid, .int .i64 ep, .int .i64 sq, .bool tx, .slice A n c, .bool yes, .int .i64 nx, .int .i64 off, .int .i64 ro, .int .i64 rp, .int .i64 rq, .string rk, .string rv, .int .i64 pp, .int .i64 pe, .int .i64 pn, .slice D m d] := by rw [hW0]; exact Var.new _ _ _
  have b0 : Below w.heap.size w W0 := by rw [hW0]; exact below_new _
  have HX := Lib.hid (hx.below (b0.mono hB))
  have hB0 := Nat.le_trans hB b0.size
  have HE : Hid ([] ++ encN [6] ++ En.body ⟨6, ⟨pid, ep, sq, tx, rs⟩, yes, nx, off, ⟨ro, rp, rq, rk, rv⟩, ⟨pp, pe, pn, sn⟩⟩ = En.enc ⟨6, ⟨pid, ep, sq, tx, rs⟩, yes, nx, off, ⟨ro, rp, rq, rk, rv⟩, ⟨pp, pe, pn, sn⟩⟩) := by show _ = _; simp [encN, En.enc]
  have HG := Lib.hid hg
  have HWR := Lib.hid hwr
  have HW0 := Lib.hid hW0
  clear hW0 hx hg hwr
  go_enter Tryz.func8, Tryz.ntmps8
  go_upto_region 1 with fail
  rw [← HW0.out]
  go_wp2_with (refine wpList_load_var rfl _ rfl Tryz.underlying32 rfl rfl v0 (by kernel_rfl) ?_)
  refine (emay_any ⟨6, ⟨pid, ep, sq, tx, rs⟩, yes, nx, off, ⟨ro, rp, rq, rk, rv⟩, ⟨pp, pe, pn, sn⟩⟩ A D n c m d B true W0 HX.out hB0 ⟨fun _ => HG.out, fun _ => rfl⟩).mono ?_
  rintro e w1 ⟨rfl, hb1⟩
  have b1 := b0.trans (hb1.mono b0.size)
  have v1 := v0.below hb1 v0.lt
  have HX1 := Lib.hid (HX.out.below (hb1.mono hB0))
  clear v0 HX HW0
  go_upto_region 4 with fail
  obtain ⟨g, hg⟩ : ∃ g, g = w1.heap.size := ⟨_, rfl⟩
  refine wp_at (C := fun W => Var W w.heap.size 32 #[.int .i8 6, .int .i64 pid, .int .i64 ep, .int .i64 sq, .bool tx, .slice A n c, .bool yes, .int .i64 nx, .int .i64 off, .int .i64 ro, .int .i64 rp, .int .i64 rq, .string rk, .string rv, .int .i64 pp, .int .i64 pe, .int .i64 pn, .slice D m d] ∧ Below w.heap.size w W ∧ EIn W B ⟨6, ⟨pid, ep, sq, tx, rs⟩, yes, nx, off, ⟨ro, rp, rq, rk, rv⟩, ⟨pp, pe, pn, sn⟩⟩ A n c D m d ∧ Wt W g []) ⟨v1.alloc _, b1.alloc b1.size _, HX1.out.below ((below_new _).mono (Nat.le_trans hB0 hb1.size)), ⟨.slice none 0 0, 0, by rw [hg]; exact Var.new _ _ _, World.ownsRow_nil _ _ _ _, rfl⟩⟩ ?_
  have hgw : w.heap.size < g := by rw [hg]; exact v1.lt
  clear v1 HX1
  rw [← hg]
  clear hg
  rintro W2 ⟨v2, b2, hx2, hw2⟩
  have HX2 := Lib.hid hx2
  clear hx2
  have hc := v2.cell 0 rfl
  have z2 := v2.lt
  go_wp2_with fail
  refine (numbers_new W2 g [] [6] 1 hw2 rfl (by simp) (by omega) (by simp)).mono ?_
  rintro e W3 ⟨rfl, hw3, q3⟩
  have v3 := v2.kept q3 (by simp; omega)
  have b3 := b2.trans (q3.below (by omega) (by simp; omega))
  have HX3 := Lib.hid (HX2.out.below (q3.below (B := B) (by have := b2.size; omega) (by simp; omega)))
  clear v2 hw2 HX2 q3 hc z2
  go_upto_region 5 with fail
  have h3 : Var W3.drew w.heap.size 32 #[.int .i8 6, .int .i64 pid, .int .i64 ep, .int .i64 sq, .bool tx, .slice A n c, .bool yes, .int .i64 nx, .int .i64 off, .int .i64 ro, .int .i64 rp, .int .i64 rq, .string rk, .string rv, .int .i64 pp, .int .i64 pe, .int .i64 pn, .slice D m d] := v3
  have hw3d : Wt W3.drew g ([] ++ encN [6]) := hw3
  have b3d : Below w.heap.size w W3.drew := b3.drew
  have HX3d : Hid (EIn W3.drew B ⟨6, ⟨pid, ep, sq, tx, rs⟩, yes, nx, off, ⟨ro, rp, rq, rk, rv⟩, ⟨pp, pe, pn, sn⟩⟩ A n c D m d) := HX3.out.below (Below.refl _ _).drew
  clear v3 hw3 b3 HX3
  refine wp_region_held_drew (S := fun w' => Var w' w.heap.size 32 #[.int .i8 6, .int .i64 pid, .int .i64 ep, .int .i64 sq, .bool tx, .slice A n c, .bool yes, .int .i64 nx, .int .i64 off, .int .i64 ro, .int .i64 rp, .int .i64 rq, .string rk, .string rv, .int .i64 pp, .int .i64 pe, .int .i64 pn, .slice D m d]) (by kernel_rfl) h3 (fun hHeld => ?_)
  refine fld_takes [1, 2, 5, 6] _ 4 _ _ _ (by kernel_rfl) (fun _ d _ _ _ h => by cases d <;> exact h) (by rfl) (by kernel_rfl) (by assumption) ?_
  refine fld_taken (v := ?_) rfl (by rfl) (fun w' hw' => ?_) ?_
  rotate_left
  · (go_simp <;> with_reducible rfl)
  simp only [Act.put, List.getElem_toArray, List.getElem_cons_succ, List.getElem_cons_zero, List.setIfInBounds_toArray, List.set_cons_zero, List.set_cons_succ]
  refine fld_taken (v := ?_) rfl (by rfl) (fun w' hw' => ?_) ?_
  rotate_left
  · have hc := hw'.cell 0 rfl
    go_simp <;> with_reducible rfl
  simp only [Act.put, List.getElem_toArray, List.getElem_cons_succ, List.getElem_cons_zero, List.setIfInBounds_toArray, List.set_cons_zero, List.set_cons_succ]
  refine fld_taken (v := ?_) rfl (by rfl) (fun w' hw' => ?_) ?_
  rotate_left
  · (go_simp <;> with_reducible rfl)
  simp only [Act.put, List.getElem_toArray, List.getElem_cons_succ, List.getElem_cons_zero, List.setIfInBounds_toArray, List.set_cons_zero, List.set_cons_succ]
  refine fld_taken (v := ?_) rfl (by rfl) (fun w' hw' => ?_) ?_
  rotate_left
  · refine exec_load_var (x := .tmp 1) ?_ ?_ hw' Tryz.underlying32 rfl (by kernel_rfl) <;> rfl
  simp only [Act.put, List.getElem_toArray, List.getElem_cons_succ, List.getElem_cons_zero, List.setIfInBounds_toArray, List.set_cons_zero, List.set_cons_succ]
  refine fld_taken_nil ?_
  refine fld_alone (i := 0) (by kernel_rfl) rfl (by rfl) (fun K hK => ?_)
  go_simp
  refine (kinds_any _).mono ?_
  rintro e W4 ⟨rfl, h4⟩
  have h5 : Var W4 w.heap.size 32 #[.int .i8 6, .int .i64 pid, .int .i64 ep, .int .i64 sq, .bool tx, .slice A n c, .bool yes, .int .i64 nx, .int .i64 off, .int .i64 ro, .int .i64 rp, .int .i64 rq, .string rk, .string rv, .int .i64 pp, .int .i64 pe, .int .i64 pn, .slice D m d] := h3.below h4 h3.lt
  have hw4 := hw3d.below h4
  have b4 := b3d.trans (h4.mono b3d.size)
  have HX4 := Lib.hid (HX3d.out.below (h4.mono (by have := b3d.size; omega)))
  simp only [kindsV]
  go_wp2_with fail
  refine hK.out _ _ h5 ?_
  clear hK K h3 hw3d b3d HX3d h4
  refine fld_takes [3, 4] _ 1 _ _ _ (by kernel_rfl) (fun _ d _ _ _ h => by cases d <;> exact h) (by rfl) (by kernel_rfl) (by assumption) ?_
  refine fld_taken (v := ?_) rfl (by rfl) (fun w' hw' => ?_) ?_
  rotate_left
  · (go_simp <;> with_reducible rfl)
  simp only [Act.put, List.getElem_toArray, List.getElem_cons_succ, List.getElem_cons_zero, List.setIfInBounds_toArray, List.set_cons_zero, List.set_cons_succ]
  refine fld_taken (v := ?_) rfl (by rfl) (fun w' hw' => ?_) ?_
  rotate_left
  · (go_simp <;> with_reducible rfl)
  simp only [Act.put, List.getElem_toArray, List.getElem_cons_succ, List.getElem_cons_zero, List.setIfInBounds_toArray, List.set_cons_zero, List.set_cons_succ]
  refine fld_taken_nil ?_
  refine fld_alone (i := 7) (by kernel_rfl) rfl (by rfl) (fun K hK => ?_)
  go_simp
  refine (HWR.out g _ W4 hw4 (by have := encN_le [6] (by simp); simp only [List.nil_append]; simp only [List.length_cons, List.length_nil] at this; omega) HX4.out (by omega)).mono ?_
  rintro e W5 ⟨rfl, hw5, k5⟩
  have h6 := k5.2 _ _ _ h5 (by omega) (by decide)
  have b6 := b4.trans (k5.1.mono (Nat.le_of_lt hgw))
  clear HX4 HWR k5 hw4 b4 h5
  rw [HE.out] at hw5
  go_wp2_with fail
  refine hK.out _ _ h6 ?_
  clear hK K h6 hHeld
  refine wpAnyH_done (by kernel_rfl) ?_ _
  obtain ⟨A2, c2, ly, hv, hs2, hly, hc2, -⟩ := hw5.get
  have hgr := hv.lt
  have p0 : W5.cell? ⟨g, 0, none⟩ = some (.slice A2 ly c2) := hv.cell 0 rfl
  have hst := str_now (P := Tryz.prog) hs2 58 9 5 ly c2 hly Tryz.underlying58 Tryz.underlying5 Tryz.underlying9
  clear hly hs2 hv hw5
  go_wp2
  go_ret2
  exact ⟨rfl, b6⟩

theorem ebytes_all (x : En) (A D : Option Addr) (n c m d B : Nat) (s : ByteArray) (er : Int) (w : World) (h : EBytesIs x s er) (hx : EIn w B x A n c D m d) (hB : B ≤ w.heap.size) :
    Calls Tryz.prog 8 #[.agg (evals x A n c D m d)] w fun e w' => e = .returned (.tuple #[.string s, .int .i64 er]) ∧ Below w.heap.size w w' := by
  rcases h with ⟨hg, rfl, rfl⟩ | ⟨hg, rfl, rfl⟩
  · have hg0 := hg
    cases hg with
    | data b hb =>
      obtain ⟨pid, ep, sq, tx, rs⟩ := b
      refine ebytes_data pid ep sq 0 0 0 0 0 0 0 0 tx false rs _ _ [] A D n c m d B w hx hB hg0 ?_
      intro g ys w1 hw hy hx1 hB1
      have := wdata g ys _ A D n c m d B w1 hw hy hx1 (by have := hw.lt; omega) hb
      exact this
    | mark pid ep yes h =>
      refine ebytes_mark pid ep 0 0 0 0 0 0 0 0 0 false yes [] _ _ [] A D n c m d B w hx hB hg0 ?_
      intro g ys w1 hw hy hx1 hB1
      exact wmark g ys pid ep yes A D n c m d w1 hw hy h
    | cut off h =>
      refine ebytes_cut 0 0 0 0 off 0 0 0 0 0 0 false false [] _ _ [] A D n c m d B w hx hB hg0 ?_
      intro g ys w1 hw hy hx1 hB1
      exact wcut g ys off A D n c m d w1 hw hy h
    | copy b yes nx hb ht hn hy2 =>
      obtain ⟨pid, ep, sq, tx, rs⟩ := b
      refine ebytes_copied pid ep sq nx 0 0 0 0 0 0 0 tx yes rs _ _ [] A D n c m d B w hx hB hg0 ?_
      intro g ys w1 hw hy hx1 hB1
      exact wcopied g ys _ yes nx A D n c m d B w1 hw hy hx1 (by have := hw.lt; omega) hb hn
    | drop pid ep nx h hn =>
      refine ebytes_drop pid ep 0 nx 0 0 0 0 0 0 0 false false [] _ _ [] A D n c m d B w hx hB hg0 ?_
      intro g ys w1 hw hy hx1 hB1
      exact wdrop g ys pid ep nx A D n c m d w1 hw hy h hn
    | row pid sq k v h =>
      refine ebytes_row 0 0 0 0 0 0 pid sq 0 0 0 false false [] k v [] A D n c m d B w hx hB hg0 ?_
      intro g ys w1 hw hy hx1 hB1
      exact wrow g ys pid sq k v A D n c m d w1 hw hy h
    | state p hp =>
      obtain ⟨pid, ep, nx, sn⟩ := p
      refine ebytes_state 0 0 0 0 0 0 0 0 pid ep nx false false [] _ _ sn A D n c m d B w hx hB hg0 ?_
      intro g ys w1 hw hy hx1 hB1
      exact wstate g ys _ A D n c m d B w1 hw hy hx1 (by have := hw.lt; omega) hB1 hp
  · exact ebytes_no x A D n c m d B w hx hB hg
end Go.Proofs.YtchpemgamgcbkaaGreat
