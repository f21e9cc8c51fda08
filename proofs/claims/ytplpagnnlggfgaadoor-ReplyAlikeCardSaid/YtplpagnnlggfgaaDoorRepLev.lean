/-
  Contracts of reply's level, levelled and Alike, and of slices.Clone over rows. Conditions: those that each theorem names.
-/
import Derived.Test.YtplpagnnlggfgaaDoorRepSame
namespace Go.Proofs.YtplpagnnlggfgaaDoor
open Go.RowKit

/-! ### a row of one's own: many elements behind it; a cell turned -/
theorem run_append_wide {P : Program} (w : World) (base : Nat) (t ty e : TypeId) {z : Value} {s bytes : Nat} (ht : P.underlying t = some (.slice e)) (hinfo : (P.info? e).map (fun i => (i.zero, i.size, i.bytes)) = some (some z, s, bytes)) (hzs : z.cells.size = s) (hs0 : 0 < s) (hby : bytes ≤ 1000)
    (v : Value) (n : Nat) (xs : List Value) (hown : w.ownsRow base e s v n xs) (B : Nat) (A : Option Addr) (m c : Nat) (news : List Value) (hm : news.length = m * s) (hr : Seen w B A news) (h1 : ∀ u ∈ news, u.oneCell' = true) (hn : n ≤ 1000) (hm1 : m ≤ 1000) (hbase : base ≤ w.heap.size) :
    ∃ A' c' w', (Builtin.append_ #[t, t] ty #[v, .slice A m c]).run P w = .ok (.slice A' (n + m) c') w' ∧ w'.ownsRow base e s (.slice A' (n + m) c') (n + m) (xs ++ news) ∧ Below base w w' := by
  obtain ⟨i, hi, hz, hsz, hbt⟩ := info_partsN hinfo
  by_cases hne : news = []
  · subst hne
    obtain rfl : m = 0 := by
      rcases Nat.eq_zero_or_pos m with h | h
      · exact h
      · have := Nat.mul_pos h hs0
        simp at hm
        omega
    obtain ⟨A', c', rfl, _, hc⟩ := own_formN hown
    refine ⟨A', c', w, ?_, by simpa using hown, Below.refl _ _⟩
    rcases hown.2 with ⟨he, h0⟩ | ⟨g, cap, cur, he, _, _, hnc, _⟩
    · injection he with e1 e2 e3
      subst e1 e3
      subst h0
      cases A <;> simp [Builtin.append_, run_underlying ht, sizeOf, typeInfo, hi, Builtin.lenOf, Builtin.firstCells, loadCells, loadCellsFrom]
    · injection he with e1 e2 e3
      subst e1 e3
      cases A <;> simp [Builtin.append_, run_underlying ht, sizeOf, typeInfo, hi, Builtin.lenOf, Builtin.firstCells, loadCells, loadCellsFrom, hnc, storeCells]
  · obtain ⟨b, off, rfl, _, hc⟩ := hr hne
    have hbb : (n + m) * bytes ≤ 2000 * 1000 := Nat.mul_le_mul (by omega) hby
    obtain ⟨v', w', hrun, h2, h3, _⟩ := run_append_own (P := P) w base t ty e i z s bytes ht hi hz hsz hbt hzs hs0 v n xs hown ⟨b, off, none⟩ m c news hm (fun j u hu => by rw [plain_add]; exact hc j u hu) h1 (by unfold maxLen; omega) (by omega) hbase
    obtain ⟨A', c', rfl, _, _⟩ := own_formN h2
    exact ⟨A', c', w', hrun, h2, grown_low h3 hbase (fun g hg => (hown.lt g hg).1)⟩
theorem wpList_append_wide {P : Program} {w : World} {ops : Array Oper} {rest : List Oper} {o : Oper} {a : Act} {Q : Exit → Act → World → Prop} (hgd : o.guard = none) (s' x : Operand) {t e : TypeId}
    (ho : o.op = .call { callee := .builtin .append, args := #[s', x], argTypes := #[t, t] }) {z : Value} {s bytes : Nat} (ht : P.underlying t = some (.slice e)) (hinfo : (P.info? e).map (fun i => (i.zero, i.size, i.bytes)) = some (some z, s, bytes)) (hzs : z.cells.size = s) (hs0 : 0 < s) (hby : bytes ≤ 1000)
    {base n B m c : Nat} {v : Value} {xs news : List Value} {A : Option Addr} (hv : a.eval s' = v) (hx : a.eval x = .slice A m c) (hown : w.ownsRow base e s v n xs) (hm : news.length = m * s) (hr : Seen w B A news) (h1 : ∀ u ∈ news, u.oneCell' = true) (hn : n ≤ 1000) (hm1 : m ≤ 1000) (hbase : base ≤ w.heap.size)
    (h : ∀ A' c' w', w'.ownsRow base e s (.slice A' (n + m) c') (n + m) (xs ++ news) → Below base w w' → wpList P ops Q rest (a.put o.dst (.slice A' (n + m) c')) w') : wpList P ops Q (o :: rest) a w := by
  obtain ⟨A', c', w', hrun, k1, k2⟩ := run_append_wide (P := P) w base t o.type e ht hinfo hzs hs0 hby v n xs hown B A m c news hm hr h1 hn hm1 hbase
  refine wpList_plain hgd fun K hK => ?_
  unfold Oper.wp execOp
  simp only [ho, resolve, invoke, builtin, Sem.run_bind, Sem.run_pure, Result.andThen_ok, List.map_toArray, List.map_cons, List.map_nil, hv, hx, hrun]
  exact hK _ _ (h A' c' w' k1 k2)
theorem row_info : (Tryd.prog.info? 37).map (fun i => (i.zero, i.size, i.bytes)) = some (some (.agg #[.int .i64 0, .int .i64 0, .int .i64 0, .string { data := #[] }, .string { data := #[] }]), 5, 56) := by kernel_rfl
/-- A cell of such a row turned. -/
theorem own_put {w : World} {base e s n g j : Nat} {c : Nat} {xs : List Value} {u : Value} (h : w.ownsRow base e s (.slice (some ⟨g, 0, none⟩) n c) n xs) (hj : j < xs.length) : (w.setCell ⟨g, j, none⟩ u).ownsRow base e s (.slice (some ⟨g, 0, none⟩) n c) n (xs.set j u) := by
  refine ⟨by rw [List.length_set]; exact h.1, ?_⟩
  rcases h.2 with ⟨he, h0⟩ | ⟨b, cap, cur, hv, hb, hq, h1, h2, h3, h4⟩
  · cases he
  · refine .inr ⟨b, cap, cur.setIfInBounds j u, hv, hb, ?_, h1, h2, by simpa using h3, ?_⟩
    · injection hv with e1 _ _
      injection e1 with e1
      injection e1 with e1 _ _
      subst e1
      have := (show Var w g e cur from hq).set j u
      exact this
    · have hj' : j < n * s := by rw [← h.1]; exact hj
      rw [Array.toList_setIfInBounds, List.take_set, h4]
theorem own_lt {w : World} {base e s n g c : Nat} {xs : List Value} (h : w.ownsRow base e s (.slice (some ⟨g, 0, none⟩) n c) n xs) : base ≤ g ∧ g < w.heap.size := h.lt g rfl
theorem own_free {w : World} {base e s n g c : Nat} {xs : List Value} (h : w.ownsRow base e s (.slice (some ⟨g, 0, none⟩) n c) n xs) (j : Nat) : w.frozen? ⟨g, j, none⟩ = false := by
  rcases h.2 with ⟨he, h0⟩ | ⟨b, cap, cur, hv, hb, hq, h1, h2, h3, h4⟩
  · cases he
  · injection hv with e1 _ _
    injection e1 with e1
    injection e1 with e1 _ _
    subst e1
    exact Var.free (show Var w g e cur from hq) j
theorem own_some {w : World} {base e s n c : Nat} {A : Option Addr} {xs : List Value} (h : w.ownsRow base e s (.slice A n c) n xs) (hn : 0 < n) : ∃ g, A = some ⟨g, 0, none⟩ := by
  rcases h.2 with ⟨he, h0⟩ | ⟨b, cap, cur, hv, _⟩
  · omega
  · injection hv with e1 _ _
    exact ⟨b, e1⟩
theorem own_at {w : World} {base n c g k : Nat} {l : List Rw} {r : Rw} (h : w.ownsRow base 37 5 (.slice (some ⟨g, 0, none⟩) n c) n (rwcells l)) (hk : l[k]? = some r) :
    w.cell? ⟨g, k * 5, none⟩ = some (.int .i64 r.off) ∧ w.cell? ⟨g, k * 5 + 1, none⟩ = some (.int .i64 r.pid) ∧ w.cell? ⟨g, k * 5 + 2, none⟩ = some (.int .i64 r.sq) ∧ w.cell? ⟨g, k * 5 + 3, none⟩ = some (.string r.k) ∧ w.cell? ⟨g, k * 5 + 4, none⟩ = some (.string r.v) := by
  obtain ⟨A', c', he, hs, _⟩ := own_formN h
  injection he with e1 _ _
  subst e1
  obtain ⟨b, off, he, _, h0, h1, h2, h3, h4⟩ := row_at hs hk
  injection he with he
  injection he with e1 e2 _
  subst e1 e2
  simp only [Nat.zero_add] at h0 h1 h2 h3 h4
  exact ⟨h0, h1, h2, h3, h4⟩
theorem rwcells_set {l : List Rw} {k : Nat} {r : Rw} (h : l[k]? = some r) (o : Int) : rwcells (l.set k { r with off := o }) = (rwcells l).set (k * 5) (.int .i64 o) := by
  have hk := (List.getElem?_eq_some_iff.1 h).1
  refine List.ext_getElem? fun i => ?_
  have hl := rwcells_length l
  rw [List.getElem?_set]
  by_cases hi : i < l.length * 5
  · obtain ⟨x, hx⟩ := in_some l (i / 5) l.length rfl ((Nat.div_lt_iff_lt_mul (by omega)).2 hi)
    have hj := Nat.mod_lt i (show 0 < 5 by omega)
    have he : i / 5 * 5 + i % 5 = i := by omega
    have ho := flat_at rwcell 5 (fun _ => rfl) hx (i % 5) hj
    rw [he] at ho
    have hset : (l.set k { r with off := o })[i / 5]? = some (if k = i / 5 then { r with off := o } else x) := by
      rw [List.getElem?_set]
      by_cases hki : k = i / 5
      · rw [if_pos hki, if_pos hki]
        rw [if_pos (by omega)]
      · rw [if_neg hki, if_neg hki]
        exact hx
    have hn := flat_at rwcell 5 (fun _ => rfl) hset (i % 5) hj
    rw [he] at hn
    rw [show (rwcells (l.set k { r with off := o }))[i]? = _ from hn, show (rwcells l)[i]? = _ from ho]
    by_cases hki : k = i / 5
    · rw [if_pos hki]
      subst hki
      rw [h] at hx
      injection hx with hx
      subst hx
      by_cases h0 : i / 5 * 5 = i
      · rw [if_pos h0, if_pos (by rw [hl]; omega), show i % 5 = 0 by omega]
        rfl
      · rw [if_neg h0]
        have h5 : i % 5 = 1 ∨ i % 5 = 2 ∨ i % 5 = 3 ∨ i % 5 = 4 := by omega
        rcases h5 with h5 | h5 | h5 | h5 <;> rw [h5] <;> rfl
    · rw [if_neg hki, if_neg (by omega)]
  · rw [List.getElem?_eq_none (by rw [rwcells_length, List.length_set]; omega), List.getElem?_eq_none (by omega)]
    split
    · split <;> first | rfl | omega
    · rfl

/-! ### level -/
def levI (n : Int) : Int := if n = -1 then -1 else 0
theorem lev_any (n : Int) (w : World) : Calls Tryd.prog 26 #[.int .i64 n] w fun e w' => e = .returned (.int .i64 (levI n)) ∧ w = w' := by
  unfold levI
  by_cases h : n = -1
  · subst h
    have y : ((-1 : Int) == -1) = true := by decide
    go_enter Tryd.func26, Tryd.ntmps26
    go_wp2
    go_ret
    exact ⟨rfl, rfl⟩
  · have y : (n == -1) = false := by rw [beq_eq_false_iff_ne]; exact h
    have HE : Hid ((if n = -1 then (-1 : Int) else 0) = 0) := by show _ = _; rw [if_neg h]
    rw [HE.out]
    clear h
    go_enter Tryd.func26, Tryd.ntmps26
    go_wp2
    go_ret
    exact ⟨rfl, rfl⟩
def levR (r : Rw) : Rw := { r with off := levI r.off }
def lev (x : Rp) : Rp := { x with off := levI x.off, rows := x.rows.map levR }

theorem eq_nil (n c : Nat) (W : World) : (binOp .eql 24 (.slice none n c) (.slice none 0 0)).run Tryd.prog W = .ok (.bool true) W := by kernel_rfl
theorem ne_nil (a : Addr) (n c : Nat) (W : World) : (binOp .eql 24 (.slice (some a) n c) (.slice none 0 0)).run Tryd.prog W = .ok (.bool false) W := by kernel_rfl
set_option maxRecDepth 100000 in
set_option maxHeartbeats 1000000 in
theorem clone_any (A : Option Addr) (n c B : Nat) (l : List Rw) (w : World) (hn : l.length = n) (hs : Seen w B A (rwcells l)) (hm : n ≤ 1000) (hB : B ≤ w.heap.size) :
    Calls Tryd.prog 27 #[.slice A n c] w fun e w' => ∃ A' c', e = .returned (.slice A' n c') ∧ w'.ownsRow w.heap.size 37 5 (.slice A' n c') n (rwcells l) ∧ Below w.heap.size w w' := by
  rcases A with _ | ⟨b, off, sp⟩
  · obtain rfl : l = [] := by
      rcases l with _ | ⟨x, l⟩
      · rfl
      · obtain ⟨b, off, he, _⟩ := hs (by simp [rwcells, rwcell])
        cases he
    obtain rfl : n = 0 := hn.symm
    have hq := eq_nil
    go_enter Tryd.func27, Tryd.ntmps27
    go_wp2
    go_ret
    exact ⟨none, 0, rfl, World.ownsRow_nil _ _ _ _, Below.refl _ _⟩
  · have HN : Hid ((rwcells l).length = n * 5) := by show _ = _; rw [rwcells_length, hn]
    have b0 : Below w.heap.size w (w.alloc (.cells #[] 37)) := below_new _
    have o0 : (w.alloc (.cells #[] 37)).ownsRow w.heap.size 37 5 (.slice (some ⟨w.heap.size, 0, none⟩) 0 0) 0 [] := World.ownsRow_made w #[] 0 (Nat.le_refl _) (Nat.zero_le _) rfl
    have s0 := hs.below (b0.mono hB)
    clear hn hs
    have hq := ne_nil
    go_enter Tryd.func27, Tryd.ntmps27
    go_wp2_with (at_builtin; refine wpList_append_wide (n := 0) (xs := []) (v := .slice (some ⟨w.heap.size, 0, none⟩) 0 0) rfl _ _ rfl Tryd.underlying24 row_info rfl (by decide) (by decide) rfl rfl o0 HN.out s0 (rwcells_one l) (by omega) hm b0.size ?_)
    intro A' c' w' ho hb
    have hb1 := b0.trans hb
    clear o0 s0
    go_wp2
    go_ret
    exact ⟨A', c', by first | rfl | simp, by simpa using ho, hb1⟩
end Go.Proofs.YtplpagnnlggfgaaDoor
