/-
  The contract of request's Read. Conditions: the one package variable of errors holds what the program's text lays (Glob).
-/
import Derived.Test.YtfcifblbapadpaaGreatDoorReqErr
import Derived.Test.YtfcifblbapadpaaGreatDoorReqRead
import Derived.Test.YtfcifblbapadpaaGreatDoorFldHeads
namespace Go.Proofs.YtfcifblbapadpaaGreatDoor
open Go.RowKit

theorem exec_load_v {P : Program} {w : World} {g T ty : Nat} {cs : Array Value} {ρ : Operand → Value} {o : Oper} {x : Operand} {d : TypeDesc} (ho : o.op = .load ty x) (hx : ρ x = .pointer (some ⟨g, 0, none⟩)) (hv : Var w g T cs) (hu : P.underlying ty = some d)
    (hd : (match d with | .struct _ | .array _ _ => true | _ => false) = true) (hi : (P.info? ty).map (·.size) = some cs.size) : (execOp ρ o).run P w = .ok (.value (.agg cs)) w := by
  unfold execOp
  simp only [ho, hx, Instr.loadAt, Instr.sureAddr, Sem.run_bind, Sem.run_pure, Result.andThen_ok, run_loadVar_row w g T ty cs (0, 0) d hv hu hd hi]
theorem wp_store_v {P : Program} {w : World} {g T ty : Nat} {cs cells : Array Value} {o : Oper} {a : Act} {K : Act → World → Prop} {Q : Exit → Act → World → Prop} (x y : Operand) (ho : o.op = .store ty x y)
    (hx : a.eval x = .pointer (some ⟨g, 0, none⟩)) (hy : a.eval y = .agg cells) (hv : Var w g T cs) (hs : cs.size = cells.size) (hi : (P.info? ty).map (·.size) = some cells.size) (h1 : cells.all (·.oneCell') = true)
    (h : ∀ w', Var w' g T cells → Only g w w' → K (a.put o.dst undef) w') : o.wp P a w K Q := by
  refine wp_store_mid ty x y ho g 0 cells hx hy (fun j hj => ?_) hi h1 (h _ ?_ (setCells_only _ _ _))
  · rw [Nat.zero_add]
    have hlt : j < cs.size := by omega
    exact ⟨by rw [hv.cell j (Array.getElem?_eq_getElem hlt)]; rfl, hv.free j⟩
  · have := setCells_var (g := g) (T := T) cells.toList 0 [] cs.toList w rfl (by simpa using hs) (by simpa using hv)
    simpa using this
/-- What Read hands back. -/
def GetRes (x : Rq) (er : Int) (w : World) (e : Ending) (w' : World) : Prop := Below w.heap.size w w' ∧ ∃ A n c, e = .returned (.tuple #[.agg (qvals x A n c), .int .i64 er]) ∧ QOwn w.heap.size w' x A n c

set_option maxRecDepth 100000 in
set_option maxHeartbeats 1000000 in
theorem rget_any (A : Option Addr) (l c B : Nat) (bs : List UInt8) (x : Rq) (er : Int) (w : World) (hG : Glob w) (hq : QIs ⟨bs.toArray⟩ x er) (hs : Seen w B A (cells bs)) (hB : B ≤ w.heap.size) (hl : l = bs.length) (hx : l ≤ 1000000) :
    Calls Tryz.prog 5 #[.slice A l c] w (GetRes x er w) := by
  obtain ⟨W0, hW0⟩ : ∃ W0, W0 = w.alloc (.cells #[.int .i8 0, .int .i64 0, .int .i64 0, .int .i64 0, .int .i64 0, .int .i64 0, .int .i64 0, .int .i64 0, .int .i64 0, .bool false, .int .i64 0, .int .i64 0, .int .i64 0, .bool false, .slice none 0 0] 29) := ⟨_, rfl⟩
  have v0 : Var W0 w.heap.size 29 #[.int .i8 0, .int .i64 0, .int .i64 0, .int .i64 0, .int .i64 0, .int .i64 0, .int .i64 0, .int .i64 0, .int .i64 0, .bool false, .int .i64 0, .int .i64 0, .int .i64 0, .bool false, .slice none 0 0] := by rw [hW0]; exact Var.new _ _ _
  have b0 : Below w.heap.size w W0 := by rw [hW0]; exact below_new _
  have HR := Lib.hid (rread_any A l c B bs x er W0 hq (hs.below (b0.mono hB)) (Nat.le_trans hB b0.size) hl hx)
  have g0 := hG.next b0
  have HW0 := Lib.hid hW0
  clear hW0 hs hq hl hx hG
  go_enter Tryz.func5, Tryz.ntmps5
  go_upto_region 1 with fail
  rw [← HW0.out]
  go_wp2_with fail
  refine HR.out.mono ?_
  rintro e W1 ⟨hb1, hcase⟩
  have g1 := g0.next hb1
  have v1 := v0.below hb1 v0.lt
  have b1 := b0.trans (hb1.mono b0.size)
  have hgood : ∃ (A' : Option Addr) (n' c' : Nat) (ev : Value), e = .returned (.tuple #[.agg (qvals x A' n' c'), ev]) ∧ QOwn w.heap.size W1 x A' n' c' ∧ ∀ W', Below W1.heap.size W1 W' → Calls Tryz.prog 11 #[ev] W' fun r w' => r = .returned (.int .i64 er) ∧ Below W'.heap.size W' w' := by
    rcases hcase with ⟨rfl, A', n', c', rfl, ho⟩ | ⟨rfl, rfl, hh, fld, rfl, h1, h2⟩
    · exact ⟨A', n', c', _, rfl, ho.down b0.size, fun W' _ => code_nil W'⟩
    · exact ⟨none, 0, 0, _, rfl, bare_qown _ _ rfl, fun W' hb => code_flt hh fld 70 W' (g1.next hb) (h2.below hb h2.lt)⟩
  clear hcase HR HW0 g0 v0 g1
  obtain ⟨A', n', c', ev, rfl, ho, hcode⟩ := hgood
  have HC := Lib.hid hcode
  obtain ⟨q1, hq1⟩ : ∃ q, q = W1.heap.size := ⟨_, rfl⟩
  have hwq : w.heap.size < q1 := by rw [hq1]; exact v1.lt
  clear hcode hb1
  go_upto_region 2 with (refine wpList_store_var rfl _ _ rfl rfl rfl (Var.new W1 #[.int .i8 0, .int .i64 0, .int .i64 0, .int .i64 0, .int .i64 0, .int .i64 0, .int .i64 0, .int .i64 0, .int .i64 0, .bool false, .int .i64 0, .int .i64 0, .int .i64 0, .bool false, .slice none 0 0] 29) rfl (by simp only [qvals]; kernel_rfl) (qvals_one x A' n' c') ?_; intro W2 v2 o2; have b12 : Below W1.heap.size W1 W2 := Only.below (below_new _) o2 (Nat.le_refl _); have v12 := v1.below b12 v1.lt)
  have ho2 := ho.only (w' := W2) (g := q1)
  have b2 := b1.trans (b12.mono b1.size)
  have hown : QOwn w.heap.size W2 x A' n' c' := by
    refine ⟨?_, ho.len, ho.four, ho.good⟩
    exact own_next ho.recs b12
  clear ho2 ho
  rw [← hq1] at v2 ⊢
  have h0 : Var W2.drew q1 29 (qvals x A' n' c') := v2
  have w0 : Var W2.drew w.heap.size 29 #[.int .i8 0, .int .i64 0, .int .i64 0, .int .i64 0, .int .i64 0, .int .i64 0, .int .i64 0, .int .i64 0, .int .i64 0, .bool false, .int .i64 0, .int .i64 0, .int .i64 0, .bool false, .slice none 0 0] := v12
  have d0 : Below w.heap.size w W2.drew := b2.trans ((Below.refl _ _).drew)
  have p0 : QOwn w.heap.size W2.drew x A' n' c' := hown.next ((Below.refl _ _).drew)
  have HD := Lib.hid (b12.trans ((Below.refl W1.heap.size W2).drew))
  clear v2 v12 b2 hown b12 o2 v1 b1 hq1
  refine wp_region_held_drew (S := fun w' => Var w' q1 29 (qvals x A' n' c')) (by kernel_rfl) h0 (fun hHeld => ?_)
  generalize W2.drew = W3 at h0 w0 d0 p0 HD hHeld ⊢
  clear hHeld
  refine fld_takes [0, 1] _ 3 _ _ _ (by kernel_rfl) (fun _ d _ _ _ h => by cases d <;> exact h) (by rfl) (by kernel_rfl) (by assumption) ?_
  refine fld_taken (v := ?_) rfl (by rfl) (fun w' hw' => ?_) ?_
  rotate_left
  · refine exec_load_v (x := .tmp 4) ?_ ?_ hw' Tryz.underlying29 rfl (by simp only [qvals]; kernel_rfl) <;> rfl
  simp only [Act.put, List.getElem_toArray, List.getElem_cons_zero, List.setIfInBounds_toArray, List.set_cons_zero, List.set_cons_succ]
  refine fld_taken (v := ?_) rfl (by rfl) (fun w' hw' => ?_) ?_
  rotate_left
  · (go_simp <;> with_reducible rfl)
  simp only [Act.put, List.getElem_toArray, List.getElem_cons_succ, List.getElem_cons_zero, List.setIfInBounds_toArray, List.set_cons_zero, List.set_cons_succ]
  refine fld_taken_nil ?_
  refine fld_alone (i := 2) (by kernel_rfl) rfl (by rfl) (fun K hK => ?_)
  go_simp
  refine (HC.out W3 HD.out).mono ?_
  rintro e W4 ⟨rfl, hb4⟩
  have h4 := h0.below hb4 h0.lt
  have w4 := w0.below hb4 w0.lt
  have d4 := d0.trans (hb4.mono d0.size)
  have p4 := p0.next hb4
  go_wp2_with fail
  refine hK.out _ _ h4 ?_
  clear hK K
  clear h0 w0 d0 p0 HD HC hb4
  refine fld_alone (i := 3) (by kernel_rfl) rfl (by rfl) (fun K hK => ?_)
  refine wp_store_v (.tmp 2) (.tmp 11) rfl rfl rfl w4 rfl (by simp only [qvals]; kernel_rfl) (qvals_one _ _ _ _) ?_
  intro W9 v9 o9
  refine hK.out _ _ (o9.var h4 (by omega)) ?_
  have h9 := o9.var h4 (show q1 ≠ w.heap.size by omega)
  refine fld_takes [4] _ 0 _ _ _ (by kernel_rfl) (fun _ d _ _ _ h => by cases d <;> exact h) (by rfl) (by kernel_rfl) (by assumption) ?_
  refine fld_taken (v := ?_) rfl (by rfl) (fun w' hw' => ?_) ?_
  rotate_left
  · (go_simp <;> with_reducible rfl)
  simp only [Act.put, List.getElem_toArray, List.getElem_cons_succ, List.getElem_cons_zero, List.setIfInBounds_toArray, List.set_cons_zero, List.set_cons_succ]
  refine fld_taken_nil ?_
  refine wpAnyH_done (by kernel_rfl) ?_ _
  have d9 := Only.below d4 o9 (Nat.le_refl _)
  have p9 : QOwn w.heap.size W9 x A' n' c' := by
    refine ⟨?_, p4.len, p4.four, p4.good⟩
    exact own_type p4.recs w4 (by decide) o9
  clear hK K h4 w4 d4 p4
  go_wp2
  refine bodyPost_ret (results_var_tmp rfl rfl rfl v9 Tryz.underlying29 rfl (by simp only [qvals]; kernel_rfl)) rfl ?_
  exact ⟨d9, A', n', c', rfl, p9⟩
end Go.Proofs.YtfcifblbapadpaaGreatDoor
