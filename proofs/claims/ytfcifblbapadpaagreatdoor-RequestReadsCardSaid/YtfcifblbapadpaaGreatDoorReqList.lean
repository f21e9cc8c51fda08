/-
  Contracts of request's reader's kind and list. Conditions: those that each theorem names.
-/
import Derived.Test.YtfcifblbapadpaaGreatDoorReqRdB
namespace Go.Proofs.YtfcifblbapadpaaGreatDoor
open Go.RowKit

theorem wrap_i8 (n : Int) : IntKind.i8.wrap n = (n + 128) % 256 - 128 := by
  simp [IntKind.wrap, IntKind.bits, IntKind.signed]
  split <;> omega
/-- Elements appended that were just built. -/
theorem append_many {P : Program} {w : World} {t e ty : TypeId} {z : Value} {s bytes : Nat} (ht : P.underlying t = some (.slice e)) (hinfo : (P.info? e).map (fun i => (i.zero, i.size, i.bytes)) = some (some z, s, bytes)) (hzs : z.cells.size = s) (hs0 : 0 < s) (hby : bytes ≤ 1000)
    {base n m c B : Nat} {v : Value} {xs news : List Value} {A : Option Addr} (hown : w.ownsRow base e s v n xs) (hl : news.length = m * s) (hm : 0 < m ∧ m ≤ 1000) (h1 : ∀ u ∈ news, u.oneCell' = true) (hr : Seen w B A news) (hbase : base ≤ w.heap.size) (hn : n ≤ 1000) :
    ∃ A' c' w', (Builtin.append_ #[t, t] ty #[v, .slice A m c]).run P w = .ok (.slice A' (n + m) c') w' ∧ w'.ownsRow base e s (.slice A' (n + m) c') (n + m) (xs ++ news) ∧ Below base w w' := by
  obtain ⟨i, hi, hz, hsz, hbt⟩ := info_partsN hinfo
  obtain ⟨b, off, rfl, _, hc⟩ := hr (by intro e; rw [e, List.length_nil] at hl; have := Nat.mul_pos hm.1 hs0; omega)
  have hbb : (n + m) * bytes ≤ 2000 * 1000 := Nat.mul_le_mul (by omega) hby
  obtain ⟨v', w', hrun, h2, h3, _⟩ := run_append_own (P := P) w base t ty e i z s bytes ht hi hz hsz hbt hzs hs0 v n xs hown ⟨b, off, none⟩ m c news hl (fun j u hu => by rw [plain_add]; exact hc j u hu) h1 (by unfold maxLen; omega) (by omega) hbase
  obtain ⟨A', c', rfl, _, _⟩ := own_formN h2
  exact ⟨A', c', w', hrun, h2, grown_low h3 hbase (fun g hg => (hown.lt g hg).1)⟩
theorem wpList_append_many {P : Program} {w : World} {ops : Array Oper} {rest : List Oper} {o : Oper} {a : Act} {Q : Exit → Act → World → Prop} (hgd : o.guard = none) (s' x : Operand) {t e : TypeId}
    (ho : o.op = .call { callee := .builtin .append, args := #[s', x], argTypes := #[t, t] }) {z : Value} {s bytes : Nat} (ht : P.underlying t = some (.slice e)) (hinfo : (P.info? e).map (fun i => (i.zero, i.size, i.bytes)) = some (some z, s, bytes)) (hzs : z.cells.size = s) (hs0 : 0 < s) (hby : bytes ≤ 1000)
    {base n m c B : Nat} {v : Value} {xs news : List Value} {A : Option Addr} (hown : w.ownsRow base e s v n xs) (hv : a.eval s' = v) (hx : a.eval x = .slice A m c) (hl : news.length = m * s) (hm : 0 < m ∧ m ≤ 1000) (h1 : ∀ u ∈ news, u.oneCell' = true) (hr : Seen w B A news) (hbase : base ≤ w.heap.size) (hn : n ≤ 1000)
    (h : ∀ A' c' w', w'.ownsRow base e s (.slice A' (n + m) c') (n + m) (xs ++ news) → Below base w w' → wpList P ops Q rest (a.put o.dst (.slice A' (n + m) c')) w') : wpList P ops Q (o :: rest) a w := by
  obtain ⟨A', c', w', hrun, k1, k2⟩ := append_many (ty := o.type) (c := c) ht hinfo hzs hs0 hby hown hl hm h1 hr hbase hn
  refine wpList_plain hgd fun K hK => ?_
  unfold Oper.wp execOp
  simp only [ho, resolve, invoke, builtin, Sem.run_bind, Sem.run_pure, Result.andThen_ok, List.map_toArray, List.map_cons, List.map_nil, hv, hx, hrun]
  exact hK _ _ (h A' c' w' k1 k2)

theorem own_type {base e n size q T : Nat} {v : Value} {xs : List Value} {cs : Array Value} {w w' : World} (h : w.ownsRow base e size v n xs) (hv : Var w q T cs) (hT : T ≠ e) (k : Only q w w') : w'.ownsRow base e size v n xs := by
  refine ⟨h.1, ?_⟩
  rcases h.2 with h0 | ⟨r, cap, cur, hv2, hb, hr, hx⟩
  · exact .inl h0
  · refine .inr ⟨r, cap, cur, hv2, hb, (k.block r fun e => ?_).trans hr, hx⟩
    subst e
    rw [show w.heap[_]? = _ from hv] at hr
    injection hr with hr
    injection hr with _ h2 _
    exact hT h2

/-- The reader's methods by field. -/
def fnum : Fd → Nat
  | .tid => 35
  | .timeout => 36
  | .pid => 39
  | .ep => 40
  | .part => 37
  | .group => 41
  | .off => 42
  | .most => 44
  | .yes => 43
  | .batch => 38
  | .fin => 45
def mval (R : Nat) (f : Fd) : Value := .func (.func (fnum f)) #[.pointer (some ⟨R, 0, none⟩)] #[]
def mcells (R : Nat) (l : List Fd) : List Value := l.map (mval R)
theorem fn_info : (Tryz.prog.info? 60).map (fun i => (i.zero, i.size, i.bytes)) = some (some .nilFunc, 1, 8) := by kernel_rfl
theorem mcells_one (R : Nat) (l : List Fd) : ∀ u ∈ mcells R l, u.oneCell' = true := by
  intro u hu
  simp only [mcells, List.mem_map] at hu
  obtain ⟨f, _, rfl⟩ := hu
  rfl
def LRes (R : Nat) (l : List Fd) (w : World) (e : Ending) (w' : World) : Prop := ∃ A n c, e = .returned (.slice A n c) ∧ n = l.length ∧ w'.ownsRow w.heap.size 60 1 (.slice A n c) n (mcells R l) ∧ Below w.heap.size w w'

set_option maxRecDepth 100000 in
set_option maxHeartbeats 1000000 in
theorem list_0 (R g : Nat) (cs : List Value) (w : World) (hv : Var w R 59 (.pointer (some ⟨g, 0, none⟩) :: .int .i8 0 :: cs).toArray) :
    Calls Tryz.prog 24 #[.pointer (some ⟨R, 0, none⟩)] w (LRes R [.fin] w) := by
  have hmf := mk_any
  have c1 : w.cell? ⟨R, 1, none⟩ = some (.int .i8 0) := hv.cell 1 rfl
  clear hv
  have ow : w.ownsRow w.heap.size 60 1 (.slice none 0 0) 0 [] := World.ownsRow_nil _ _ _ _
  go_enter Tryz.func24, Tryz.ntmps24
  go_wp2_with (at_builtin; first | (refine wpList_append_many rfl _ _ rfl Tryz.underlying61 fn_info rfl (by decide) (by decide) (base := w.heap.size) (news := (mcells R [.fin])) (own_next ow (below_new _)) rfl rfl rfl (by decide) (mcells_one _ _) (Seen.new _ (mcells R [.fin]) _) (by rw [World.size_alloc]; omega) (by omega) ?_; intro A1 d1 w1 o1 p1; have z1 := p1.size; rw [World.size_alloc] at z1; have b1 : Below w.heap.size w w1 := (below_new _).trans p1))
  go_ret
  exact ⟨_, _, _, rfl, rfl, o1, b1⟩

set_option maxRecDepth 100000 in
set_option maxHeartbeats 1000000 in
theorem list_1 (R g : Nat) (cs : List Value) (w : World) (hv : Var w R 59 (.pointer (some ⟨g, 0, none⟩) :: .int .i8 1 :: cs).toArray) :
    Calls Tryz.prog 24 #[.pointer (some ⟨R, 0, none⟩)] w (LRes R [.tid, .timeout, .fin] w) := by
  have hmf := mk_any
  have c1 : w.cell? ⟨R, 1, none⟩ = some (.int .i8 1) := hv.cell 1 rfl
  clear hv
  have ow : w.ownsRow w.heap.size 60 1 (.slice none 0 0) 0 [] := World.ownsRow_nil _ _ _ _
  go_enter Tryz.func24, Tryz.ntmps24
  go_wp2_with (at_builtin; first | (refine wpList_append_many rfl _ _ rfl Tryz.underlying61 fn_info rfl (by decide) (by decide) (base := w.heap.size) (news := (mcells R [.fin])) (own_next o1 (below_new _)) rfl rfl rfl (by decide) (mcells_one _ _) (Seen.new _ (mcells R [.fin]) _) (by rw [World.size_alloc]; omega) (by omega) ?_; intro A2 d2 w2 o2 p2; have z2 := p2.size; rw [World.size_alloc] at z2; have b2 : Below w.heap.size w w2 := (b1.alloc (by omega) _).trans p2) | (refine wpList_append_many rfl _ _ rfl Tryz.underlying61 fn_info rfl (by decide) (by decide) (base := w.heap.size) (news := (mcells R [.tid, .timeout])) (own_next ow (below_new _)) rfl rfl rfl (by decide) (mcells_one _ _) (Seen.new _ (mcells R [.tid, .timeout]) _) (by rw [World.size_alloc]; omega) (by omega) ?_; intro A1 d1 w1 o1 p1; have z1 := p1.size; rw [World.size_alloc] at z1; have b1 : Below w.heap.size w w1 := (below_new _).trans p1))
  go_ret
  exact ⟨_, _, _, rfl, rfl, o2, b2⟩

set_option maxRecDepth 100000 in
set_option maxHeartbeats 1000000 in
theorem list_2 (R g : Nat) (cs : List Value) (w : World) (hv : Var w R 59 (.pointer (some ⟨g, 0, none⟩) :: .int .i8 2 :: cs).toArray) :
    Calls Tryz.prog 24 #[.pointer (some ⟨R, 0, none⟩)] w (LRes R [.part, .batch, .fin] w) := by
  have hmf := mk_any
  have c1 : w.cell? ⟨R, 1, none⟩ = some (.int .i8 2) := hv.cell 1 rfl
  clear hv
  have ow : w.ownsRow w.heap.size 60 1 (.slice none 0 0) 0 [] := World.ownsRow_nil _ _ _ _
  go_enter Tryz.func24, Tryz.ntmps24
  go_wp2_with (at_builtin; first | (refine wpList_append_many rfl _ _ rfl Tryz.underlying61 fn_info rfl (by decide) (by decide) (base := w.heap.size) (news := (mcells R [.fin])) (own_next o1 (below_new _)) rfl rfl rfl (by decide) (mcells_one _ _) (Seen.new _ (mcells R [.fin]) _) (by rw [World.size_alloc]; omega) (by omega) ?_; intro A2 d2 w2 o2 p2; have z2 := p2.size; rw [World.size_alloc] at z2; have b2 : Below w.heap.size w w2 := (b1.alloc (by omega) _).trans p2) | (refine wpList_append_many rfl _ _ rfl Tryz.underlying61 fn_info rfl (by decide) (by decide) (base := w.heap.size) (news := (mcells R [.part, .batch])) (own_next ow (below_new _)) rfl rfl rfl (by decide) (mcells_one _ _) (Seen.new _ (mcells R [.part, .batch]) _) (by rw [World.size_alloc]; omega) (by omega) ?_; intro A1 d1 w1 o1 p1; have z1 := p1.size; rw [World.size_alloc] at z1; have b1 : Below w.heap.size w w1 := (below_new _).trans p1))
  go_ret
  exact ⟨_, _, _, rfl, rfl, o2, b2⟩

set_option maxRecDepth 100000 in
set_option maxHeartbeats 1000000 in
theorem list_3 (R g : Nat) (cs : List Value) (w : World) (hv : Var w R 59 (.pointer (some ⟨g, 0, none⟩) :: .int .i8 3 :: cs).toArray) :
    Calls Tryz.prog 24 #[.pointer (some ⟨R, 0, none⟩)] w (LRes R [.pid, .ep, .group, .part, .off, .fin] w) := by
  have hmf := mk_any
  have c1 : w.cell? ⟨R, 1, none⟩ = some (.int .i8 3) := hv.cell 1 rfl
  clear hv
  have ow : w.ownsRow w.heap.size 60 1 (.slice none 0 0) 0 [] := World.ownsRow_nil _ _ _ _
  go_enter Tryz.func24, Tryz.ntmps24
  go_wp2_with (at_builtin; first | (refine wpList_append_many rfl _ _ rfl Tryz.underlying61 fn_info rfl (by decide) (by decide) (base := w.heap.size) (news := (mcells R [.fin])) (own_next o3 (below_new _)) rfl rfl rfl (by decide) (mcells_one _ _) (Seen.new _ (mcells R [.fin]) _) (by rw [World.size_alloc]; omega) (by omega) ?_; intro A4 d4 w4 o4 p4; have z4 := p4.size; rw [World.size_alloc] at z4; have b4 : Below w.heap.size w w4 := (b3.alloc (by omega) _).trans p4) | (refine wpList_append_many rfl _ _ rfl Tryz.underlying61 fn_info rfl (by decide) (by decide) (base := w.heap.size) (news := (mcells R [.part, .off])) (own_next o2 (below_new _)) rfl rfl rfl (by decide) (mcells_one _ _) (Seen.new _ (mcells R [.part, .off]) _) (by rw [World.size_alloc]; omega) (by omega) ?_; intro A3 d3 w3 o3 p3; have z3 := p3.size; rw [World.size_alloc] at z3; have b3 : Below w.heap.size w w3 := (b2.alloc (by omega) _).trans p3) | (refine wpList_append_many rfl _ _ rfl Tryz.underlying61 fn_info rfl (by decide) (by decide) (base := w.heap.size) (news := (mcells R [.group])) (own_next o1 (below_new _)) rfl rfl rfl (by decide) (mcells_one _ _) (Seen.new _ (mcells R [.group]) _) (by rw [World.size_alloc]; omega) (by omega) ?_; intro A2 d2 w2 o2 p2; have z2 := p2.size; rw [World.size_alloc] at z2; have b2 : Below w.heap.size w w2 := (b1.alloc (by omega) _).trans p2) | (refine wpList_append_many rfl _ _ rfl Tryz.underlying61 fn_info rfl (by decide) (by decide) (base := w.heap.size) (news := (mcells R [.pid, .ep])) (own_next ow (below_new _)) rfl rfl rfl (by decide) (mcells_one _ _) (Seen.new _ (mcells R [.pid, .ep]) _) (by rw [World.size_alloc]; omega) (by omega) ?_; intro A1 d1 w1 o1 p1; have z1 := p1.size; rw [World.size_alloc] at z1; have b1 : Below w.heap.size w w1 := (below_new _).trans p1))
  go_ret
  exact ⟨_, _, _, rfl, rfl, o4, b4⟩

set_option maxRecDepth 100000 in
set_option maxHeartbeats 1000000 in
theorem list_4 (R g : Nat) (cs : List Value) (w : World) (hv : Var w R 59 (.pointer (some ⟨g, 0, none⟩) :: .int .i8 4 :: cs).toArray) :
    Calls Tryz.prog 24 #[.pointer (some ⟨R, 0, none⟩)] w (LRes R [.pid, .ep, .yes, .fin] w) := by
  have hmf := mk_any
  have c1 : w.cell? ⟨R, 1, none⟩ = some (.int .i8 4) := hv.cell 1 rfl
  clear hv
  have ow : w.ownsRow w.heap.size 60 1 (.slice none 0 0) 0 [] := World.ownsRow_nil _ _ _ _
  go_enter Tryz.func24, Tryz.ntmps24
  go_wp2_with (at_builtin; first | (refine wpList_append_many rfl _ _ rfl Tryz.underlying61 fn_info rfl (by decide) (by decide) (base := w.heap.size) (news := (mcells R [.fin])) (own_next o1 (below_new _)) rfl rfl rfl (by decide) (mcells_one _ _) (Seen.new _ (mcells R [.fin]) _) (by rw [World.size_alloc]; omega) (by omega) ?_; intro A2 d2 w2 o2 p2; have z2 := p2.size; rw [World.size_alloc] at z2; have b2 : Below w.heap.size w w2 := (b1.alloc (by omega) _).trans p2) | (refine wpList_append_many rfl _ _ rfl Tryz.underlying61 fn_info rfl (by decide) (by decide) (base := w.heap.size) (news := (mcells R [.pid, .ep, .yes])) (own_next ow (below_new _)) rfl rfl rfl (by decide) (mcells_one _ _) (Seen.new _ (mcells R [.pid, .ep, .yes]) _) (by rw [World.size_alloc]; omega) (by omega) ?_; intro A1 d1 w1 o1 p1; have z1 := p1.size; rw [World.size_alloc] at z1; have b1 : Below w.heap.size w w1 := (below_new _).trans p1))
  go_ret
  exact ⟨_, _, _, rfl, rfl, o2, b2⟩

set_option maxRecDepth 100000 in
set_option maxHeartbeats 1000000 in
theorem list_5 (R g : Nat) (cs : List Value) (w : World) (hv : Var w R 59 (.pointer (some ⟨g, 0, none⟩) :: .int .i8 5 :: cs).toArray) :
    Calls Tryz.prog 24 #[.pointer (some ⟨R, 0, none⟩)] w (LRes R [.part, .off, .most, .yes, .fin] w) := by
  have hmf := mk_any
  have c1 : w.cell? ⟨R, 1, none⟩ = some (.int .i8 5) := hv.cell 1 rfl
  clear hv
  have ow : w.ownsRow w.heap.size 60 1 (.slice none 0 0) 0 [] := World.ownsRow_nil _ _ _ _
  go_enter Tryz.func24, Tryz.ntmps24
  go_wp2_with (at_builtin; first | (refine wpList_append_many rfl _ _ rfl Tryz.underlying61 fn_info rfl (by decide) (by decide) (base := w.heap.size) (news := (mcells R [.fin])) (own_next o1 (below_new _)) rfl rfl rfl (by decide) (mcells_one _ _) (Seen.new _ (mcells R [.fin]) _) (by rw [World.size_alloc]; omega) (by omega) ?_; intro A2 d2 w2 o2 p2; have z2 := p2.size; rw [World.size_alloc] at z2; have b2 : Below w.heap.size w w2 := (b1.alloc (by omega) _).trans p2) | (refine wpList_append_many rfl _ _ rfl Tryz.underlying61 fn_info rfl (by decide) (by decide) (base := w.heap.size) (news := (mcells R [.part, .off, .most, .yes])) (own_next ow (below_new _)) rfl rfl rfl (by decide) (mcells_one _ _) (Seen.new _ (mcells R [.part, .off, .most, .yes]) _) (by rw [World.size_alloc]; omega) (by omega) ?_; intro A1 d1 w1 o1 p1; have z1 := p1.size; rw [World.size_alloc] at z1; have b1 : Below w.heap.size w w1 := (below_new _).trans p1))
  go_ret
  exact ⟨_, _, _, rfl, rfl, o2, b2⟩

set_option maxRecDepth 100000 in
set_option maxHeartbeats 1000000 in
theorem list_6 (R g : Nat) (cs : List Value) (w : World) (hv : Var w R 59 (.pointer (some ⟨g, 0, none⟩) :: .int .i8 6 :: cs).toArray) :
    Calls Tryz.prog 24 #[.pointer (some ⟨R, 0, none⟩)] w (LRes R [.group, .part, .off, .fin] w) := by
  have hmf := mk_any
  have c1 : w.cell? ⟨R, 1, none⟩ = some (.int .i8 6) := hv.cell 1 rfl
  clear hv
  have ow : w.ownsRow w.heap.size 60 1 (.slice none 0 0) 0 [] := World.ownsRow_nil _ _ _ _
  go_enter Tryz.func24, Tryz.ntmps24
  go_wp2_with (at_builtin; first | (refine wpList_append_many rfl _ _ rfl Tryz.underlying61 fn_info rfl (by decide) (by decide) (base := w.heap.size) (news := (mcells R [.fin])) (own_next o2 (below_new _)) rfl rfl rfl (by decide) (mcells_one _ _) (Seen.new _ (mcells R [.fin]) _) (by rw [World.size_alloc]; omega) (by omega) ?_; intro A3 d3 w3 o3 p3; have z3 := p3.size; rw [World.size_alloc] at z3; have b3 : Below w.heap.size w w3 := (b2.alloc (by omega) _).trans p3) | (refine wpList_append_many rfl _ _ rfl Tryz.underlying61 fn_info rfl (by decide) (by decide) (base := w.heap.size) (news := (mcells R [.part, .off])) (own_next o1 (below_new _)) rfl rfl rfl (by decide) (mcells_one _ _) (Seen.new _ (mcells R [.part, .off]) _) (by rw [World.size_alloc]; omega) (by omega) ?_; intro A2 d2 w2 o2 p2; have z2 := p2.size; rw [World.size_alloc] at z2; have b2 : Below w.heap.size w w2 := (b1.alloc (by omega) _).trans p2) | (refine wpList_append_many rfl _ _ rfl Tryz.underlying61 fn_info rfl (by decide) (by decide) (base := w.heap.size) (news := (mcells R [.group])) (own_next ow (below_new _)) rfl rfl rfl (by decide) (mcells_one _ _) (Seen.new _ (mcells R [.group]) _) (by rw [World.size_alloc]; omega) (by omega) ?_; intro A1 d1 w1 o1 p1; have z1 := p1.size; rw [World.size_alloc] at z1; have b1 : Below w.heap.size w w1 := (below_new _).trans p1))
  go_ret
  exact ⟨_, _, _, rfl, rfl, o3, b3⟩

set_option maxRecDepth 100000 in
set_option maxHeartbeats 1000000 in
theorem list_7 (R g : Nat) (cs : List Value) (w : World) (hv : Var w R 59 (.pointer (some ⟨g, 0, none⟩) :: .int .i8 7 :: cs).toArray) :
    Calls Tryz.prog 24 #[.pointer (some ⟨R, 0, none⟩)] w (LRes R [.group, .part, .fin] w) := by
  have hmf := mk_any
  have c1 : w.cell? ⟨R, 1, none⟩ = some (.int .i8 7) := hv.cell 1 rfl
  clear hv
  have ow : w.ownsRow w.heap.size 60 1 (.slice none 0 0) 0 [] := World.ownsRow_nil _ _ _ _
  go_enter Tryz.func24, Tryz.ntmps24
  go_wp2_with (at_builtin; first | (refine wpList_append_many rfl _ _ rfl Tryz.underlying61 fn_info rfl (by decide) (by decide) (base := w.heap.size) (news := (mcells R [.fin])) (own_next o1 (below_new _)) rfl rfl rfl (by decide) (mcells_one _ _) (Seen.new _ (mcells R [.fin]) _) (by rw [World.size_alloc]; omega) (by omega) ?_; intro A2 d2 w2 o2 p2; have z2 := p2.size; rw [World.size_alloc] at z2; have b2 : Below w.heap.size w w2 := (b1.alloc (by omega) _).trans p2) | (refine wpList_append_many rfl _ _ rfl Tryz.underlying61 fn_info rfl (by decide) (by decide) (base := w.heap.size) (news := (mcells R [.group, .part])) (own_next ow (below_new _)) rfl rfl rfl (by decide) (mcells_one _ _) (Seen.new _ (mcells R [.group, .part]) _) (by rw [World.size_alloc]; omega) (by omega) ?_; intro A1 d1 w1 o1 p1; have z1 := p1.size; rw [World.size_alloc] at z1; have b1 : Below w.heap.size w w1 := (below_new _).trans p1))
  go_ret
  exact ⟨_, _, _, rfl, rfl, o2, b2⟩

set_option maxRecDepth 100000 in
set_option maxHeartbeats 1000000 in
theorem list_8 (R g : Nat) (cs : List Value) (w : World) (hv : Var w R 59 (.pointer (some ⟨g, 0, none⟩) :: .int .i8 8 :: cs).toArray) :
    Calls Tryz.prog 24 #[.pointer (some ⟨R, 0, none⟩)] w (LRes R [.part, .off, .fin] w) := by
  have hmf := mk_any
  have c1 : w.cell? ⟨R, 1, none⟩ = some (.int .i8 8) := hv.cell 1 rfl
  clear hv
  have ow : w.ownsRow w.heap.size 60 1 (.slice none 0 0) 0 [] := World.ownsRow_nil _ _ _ _
  go_enter Tryz.func24, Tryz.ntmps24
  go_wp2_with (at_builtin; first | (refine wpList_append_many rfl _ _ rfl Tryz.underlying61 fn_info rfl (by decide) (by decide) (base := w.heap.size) (news := (mcells R [.fin])) (own_next o1 (below_new _)) rfl rfl rfl (by decide) (mcells_one _ _) (Seen.new _ (mcells R [.fin]) _) (by rw [World.size_alloc]; omega) (by omega) ?_; intro A2 d2 w2 o2 p2; have z2 := p2.size; rw [World.size_alloc] at z2; have b2 : Below w.heap.size w w2 := (b1.alloc (by omega) _).trans p2) | (refine wpList_append_many rfl _ _ rfl Tryz.underlying61 fn_info rfl (by decide) (by decide) (base := w.heap.size) (news := (mcells R [.part, .off])) (own_next ow (below_new _)) rfl rfl rfl (by decide) (mcells_one _ _) (Seen.new _ (mcells R [.part, .off]) _) (by rw [World.size_alloc]; omega) (by omega) ?_; intro A1 d1 w1 o1 p1; have z1 := p1.size; rw [World.size_alloc] at z1; have b1 : Below w.heap.size w w1 := (below_new _).trans p1))
  go_ret
  exact ⟨_, _, _, rfl, rfl, o2, b2⟩

set_option maxRecDepth 100000 in
set_option maxHeartbeats 1000000 in
theorem list_9 (R g : Nat) (cs : List Value) (w : World) (hv : Var w R 59 (.pointer (some ⟨g, 0, none⟩) :: .int .i8 9 :: cs).toArray) :
    Calls Tryz.prog 24 #[.pointer (some ⟨R, 0, none⟩)] w (LRes R [.fin] w) := by
  have hmf := mk_any
  have c1 : w.cell? ⟨R, 1, none⟩ = some (.int .i8 9) := hv.cell 1 rfl
  clear hv
  have ow : w.ownsRow w.heap.size 60 1 (.slice none 0 0) 0 [] := World.ownsRow_nil _ _ _ _
  go_enter Tryz.func24, Tryz.ntmps24
  go_wp2_with (at_builtin; first | (refine wpList_append_many rfl _ _ rfl Tryz.underlying61 fn_info rfl (by decide) (by decide) (base := w.heap.size) (news := (mcells R [.fin])) (own_next ow (below_new _)) rfl rfl rfl (by decide) (mcells_one _ _) (Seen.new _ (mcells R [.fin]) _) (by rw [World.size_alloc]; omega) (by omega) ?_; intro A1 d1 w1 o1 p1; have z1 := p1.size; rw [World.size_alloc] at z1; have b1 : Below w.heap.size w w1 := (below_new _).trans p1))
  go_ret
  exact ⟨_, _, _, rfl, rfl, o1, b1⟩

theorem list_any (R g k : Nat) (cs : List Value) (w : World) (hk : k ≤ 9) (hv : Var w R 59 (.pointer (some ⟨g, 0, none⟩) :: .int .i8 (k : Int) :: cs).toArray) :
    Calls Tryz.prog 24 #[.pointer (some ⟨R, 0, none⟩)] w (LRes R (fdsOf k ++ [.fin]) w) := by
  match k, hk with
  | 0, _ => exact list_0 R g cs w hv
  | 1, _ => exact list_1 R g cs w hv
  | 2, _ => exact list_2 R g cs w hv
  | 3, _ => exact list_3 R g cs w hv
  | 4, _ => exact list_4 R g cs w hv
  | 5, _ => exact list_5 R g cs w hv
  | 6, _ => exact list_6 R g cs w hv
  | 7, _ => exact list_7 R g cs w hv
  | 8, _ => exact list_8 R g cs w hv
  | 9, _ => exact list_9 R g cs w hv

set_option maxRecDepth 100000 in
set_option maxHeartbeats 2000000 in
theorem r_kind (R g : Nat) (s : ByteArray) (p : Nat) (x : Rq) (v : Int) (p' : Nat) (bad' : Bool) (A : Option Addr) (n c : Nat) (w : World) (h : NumIs s p false 0 9 v p' bad') (hr : RqAt w R g s p x A n c) (hx : s.size ≤ 1000000) (hp : p ≤ s.size) :
    Calls Tryz.prog 23 #[.pointer (some ⟨R, 0, none⟩)] w (MRes R g s { x with kind := v } p' bad' w) := by
  have hv09 := h.in (by omega)
  have HN := Lib.hid h
  have HR := Lib.hid hr
  have hl := hr.lt
  have hz := hr.v.lt
  have hik : Tryz.prog.intKind 24 = .i8 := by kernel_rfl
  have hcv : ∀ W, (convert 3 24 (.int .i64 v)).run Tryz.prog W = .ok (.int .i8 v) W := fun W => by
    have hw : IntKind.i8.wrap v = v := by rw [wrap_i8]; omega
    rw [run_convert_int W _ _ .i64 v (by kernel_rfl) (by kernel_rfl), hik, hw]
  obtain ⟨kind, tid, timeout, pid, ep, part, group, off, most, yes, b⟩ := x
  obtain ⟨W1, hW1⟩ : ∃ W1, W1 = w.alloc (.cells #[.int .i64 0] 3) := ⟨_, rfl⟩
  have v1 : Var W1 w.heap.size 3 #[.int .i64 0] := by rw [hW1]; exact Var.new _ _ _
  have b1 : Below w.heap.size w W1 := by rw [hW1]; exact below_new _
  have hr1 : Rd 78 W1 g s p false := Var.below hr.rd b1 (Var.lt hr.rd)
  have rv1 := hr.v.below b1 hz
  have q1 := hr.own.next b1
  have c0 : W1.cell? ⟨R, 0, none⟩ = some (.pointer (some ⟨g, 0, none⟩)) := rv1.cell 0 rfl
  have HW1 := Lib.hid hW1
  clear hW1 h hik
  go_enter Tryz.func23, Tryz.ntmps23
  go_wp2_with fail
  rw [← HW1.out]
  refine (rnum_any R g w.heap.size 0 s p 0 9 v 0 p' bad' _ W1 HN.out c0 (by omega) hr1 hx hp (by omega) (.inl (by omega)) (v1.cell 0 rfl) (v1.free 0)).mono ?_
  rintro e w1 ⟨w2, hr2, hk2, he, hb2⟩
  have hs2 : (w2.setCell ⟨w.heap.size, 0, none⟩ (.int .i64 v)).heap.size = w2.heap.size := by simp [World.setCell]
  have vk := (v1.kept hk2 (by simp; omega)).set 0 (.int .i64 v)
  have hbz : Below w2.heap.size (w2.setCell ⟨w.heap.size, 0, none⟩ (.int .i64 v)) w1 := hb2
  have vk1 := vk.below hbz (by have := vk.lt; omega)
  have ck : w1.cell? ⟨w.heap.size, 0, none⟩ = some (.int .i64 v) := vk1.cell 0 (by simp)
  have zk := vk1.lt
  have rv2 := (rv1.kept hk2 (by simp; omega)).other (b := w.heap.size) 0 (.int .i64 v) (by omega)
  have rv3 := rv2.below hbz (by have := rv2.lt; omega)
  have rd3 : Rd 78 w1 g s p' bad' := Var.below (Var.other hr2 0 (.int .i64 v) (by omega)) hbz (by have := Var.lt hr2; omega)
  have k3 : Kept [R, g] w w1 := ((((Kept.of_below b1).trans (hk2.mono (by intro x hx; simp at hx; subst hx; exact .inl (by simp)))).setCell (.inr (Nat.le_refl _)) _).trans (Kept.of_below (by rw [hs2]; exact hbz)))
  have hc0 : ⟨R, 1, none⟩ = (⟨R, 1, none⟩ : Addr) := rfl
  have r1c : w1.cell? ⟨R, 1, none⟩ = some (.int .i8 kind) := rv3.cell 1 rfl
  have r1f : w1.frozen? ⟨R, 1, none⟩ = false := rv3.free 1
  have hq : bad' = false → QOwn (R + 1) w1 ⟨v, tid, timeout, pid, ep, part, group, off, most, yes, b⟩ A n c := fun _ => by
    refine QOwn.next (w := w2.setCell ⟨w.heap.size, 0, none⟩ (.int .i64 v)) ?_ (by rw [hs2]; exact hbz)
    refine ⟨?_, q1.len, q1.four, q1.good⟩
    exact own_type (own_kept q1.recs hk2 (by intro x hx; simp at hx; subst hx; omega)) (v1.kept hk2 (by simp; omega)) (by decide) (Only.setCell _ _ _ _)
  have he2 : ErrIs bad' w.heap.size e (w1.setCell ⟨R, 1, none⟩ (.int .i8 v)) := by
    rcases he with h9 | ⟨h1, hh, fld, h2, h3, h4⟩
    · exact .inl h9
    · have := hk2.size
      have := b1.size
      exact .inr ⟨h1, hh, fld, h2, by omega, h4.other 1 _ (by omega)⟩
  have HM : Hid (MRes R g s ⟨v, tid, timeout, pid, ep, part, group, off, most, yes, b⟩ p' bad' w e (w1.setCell ⟨R, 1, none⟩ (.int .i8 v))) := by
    refine ⟨he2, k3.setCell (.inl (by simp)) _, fun hb => ⟨A, n, c, rv3.set 1 (.int .i8 v), ?_, (hq hb).set (p := ⟨R, 1, none⟩) (Nat.lt_succ_self R) _, hl⟩⟩
    subst hb
    exact Var.other rd3 1 _ (by omega)
  rcases he with ⟨rfl, rfl⟩ | ⟨rfl, hh, fld, rfl, -⟩
  · clear hr hr1 rv1 q1 c0 v1 HN HR HW1 rv2 rv3 rd3 hq he2 vk vk1
    go_wp2
    go_ret
    exact HM.out
  · clear hr hr1 rv1 q1 c0 v1 HN HR HW1 rv2 rv3 rd3 hq he2 vk vk1
    go_wp2
    go_ret
    exact HM.out
end Go.Proofs.YtfcifblbapadpaaGreatDoor
