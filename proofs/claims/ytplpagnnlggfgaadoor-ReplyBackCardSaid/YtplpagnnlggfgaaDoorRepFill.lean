/-
  Rows made and filled by copy, a row put behind rows of the call's own, and what becomes of a walk meanwhile. Conditions: those that each theorem names.
-/
import Derived.Test.YtplpagnnlggfgaaDoorRepRow
import Derived.Lib.SlBuf
import Derived.Laws.CopyRow
namespace Go.Proofs.YtplpagnnlggfgaaDoor
open Go.RowKit

theorem row_make (n : Nat) (hn : n ≤ 1000) (W : World) : (Instr.makeSlice 24 (.int .i64 (n : Int)) (.int .i64 (n : Int))).run Tryd.prog W =
    .ok (.slice (some ⟨W.heap.size, 0, none⟩) n n) (W.alloc (.cells (madeCells #[.int .i64 0, .int .i64 0, .int .i64 0, .string { data := #[] }, .string { data := #[] }] (n * 5)) 37)) := by
  obtain ⟨i, hi, hzz⟩ := Option.map_eq_some_iff.1 row_info
  simp only [Prod.mk.injEq] at hzz
  obtain ⟨hz, hs, hb⟩ := hzz
  have hr := run_make (P := Tryd.prog) W 24 37 i _ Tryd.underlying24 hi hz .i64 .i64 n n (by omega) (Int.le_refl _) (by rw [hb]; omega) (by omega)
  simp only [Int.toNat_natCast, hs] at hr
  exact hr
/-- 'copy(d, s)' where d fills a block's beginning, elements of any width. -/
theorem run_copy_wide {P : Program} (w : World) (dT sT ty elem : TypeId) (s g dLen dCap : Nat) (A : Option Addr) (sLen sCap B : Nat) (cur : Array Value) (t : TypeId) (cs : List Value)
    (hu : P.underlying dT = some (.slice elem)) (hs : (P.info? elem).map (·.size) = some s) (hv : Var w g t cur) (hn : cs.length = Nat.min sLen dLen * s) (hr : Seen w B A cs) (hfit : cs.length ≤ cur.size) (h1 : ∀ v ∈ cs, v.oneCell' = true) :
    ∃ w', (Builtin.copy_ #[dT, sT] ty #[.slice (some ⟨g, 0, none⟩) dLen dCap, .slice A sLen sCap]).run P w = .ok (goInt (Nat.min sLen dLen)) w' ∧ Var w' g t (cs ++ cur.toList.drop cs.length).toArray ∧ Only g w w' := by
  have hst := run_storeCells_at P g 0 t cs 0 cur w hv (by simpa using hfit) h1
  have ho : Only g w (w.setRow g (cs ++ cur.toList.drop cs.length).toArray) := ⟨rfl, rfl, rfl, by simp [World.setRow], fun k hk => setRow_other w g k _ hk⟩
  have hh : Var (w.setRow g (cs ++ cur.toList.drop cs.length).toArray) g t (cs ++ cur.toList.drop cs.length).toArray := setRow_heap w g _ _ t _ hv
  cases hq : P.info? elem with
  | none => simp [hq] at hs
  | some i =>
    have hi : i.size = s := by simpa [hq] using hs
    cases A with
    | none =>
      have hc : cs = [] := by
        rcases cs with _ | ⟨x, l⟩
        · rfl
        · obtain ⟨b, off, he, _⟩ := hr (by simp)
          cases he
      subst hc
      refine ⟨w, ?_, by simpa using hv, Only.refl _ _⟩
      simp [Builtin.copy_, run_underlying hu, Builtin.lenOf, Builtin.firstCells, sizeOf, typeInfo, hq, storeCells]
    | some a =>
      have hsrc : ∀ j v, cs[j]? = some v → w.cell? (a.add j) = some v := by
        intro j v hj
        obtain ⟨b, off, he, _, hc⟩ := hr (by intro e; rw [e] at hj; simp at hj)
        injection he with he
        subst he
        rw [plain_add]
        exact hc j v hj
      have hl := run_loadCells_list (P := P) w a cs hsrc
      refine ⟨_, ?_, hh, ho⟩
      simp only [Nat.zero_add, List.take_zero, List.nil_append, Nat.add_zero] at hst
      have h0 : (⟨g, 0, none⟩ : Addr).add 0 = ⟨g, 0, none⟩ := by simp [Addr.add]
      simp [Builtin.copy_, run_underlying hu, Builtin.lenOf, Builtin.firstCells, sizeOf, typeInfo, hq, hi, ← hn, hl, hst]
theorem made_at (n i : Nat) (h : i < n * 5) : (madeCells #[.int .i64 0, .int .i64 0, .int .i64 0, .string { data := #[] }, .string { data := #[] }] (n * 5))[i]? = (rwcell noRw)[i % 5]? := by
  have h5 : i % 5 = 0 ∨ i % 5 = 1 ∨ i % 5 = 2 ∨ i % 5 = 3 ∨ i % 5 = 4 := by omega
  unfold madeCells
  rw [Array.getElem?_map, Array.getElem?_range, if_pos h]
  rcases h5 with h5 | h5 | h5 | h5 | h5 <;> simp [h5, rwcell, noRw]
/-- What lies in the new rows behind the copy. -/
theorem pad_seen {w : World} {g n nf : Nat} {fr : List Rw} (hf : fr.length = nf)
    (hv : Var w g 37 (rwcells (fr.take n) ++ (madeCells #[.int .i64 0, .int .i64 0, .int .i64 0, .string { data := #[] }, .string { data := #[] }] (n * 5)).toList.drop (rwcells (fr.take n)).length).toArray) :
    Seen w (g + 1) (some ⟨g, 0, none⟩) (rwcells (pad n fr)) := fun _ => by
  refine ⟨g, 0, rfl, by omega, ?_⟩
  refine flat_all rwcell 5 (by omega) (fun _ => rfl) (p := fun i u => w.cell? ⟨g, 0 + i, none⟩ = some u) fun k x j u hk hj hu => ?_
  have hkn : k < n := by
    have := (List.getElem?_eq_some_iff.1 hk).1
    rwa [pad_length] at this
  have hl := rwcells_length (fr.take n)
  rw [List.length_take, hf] at hl
  rw [Nat.zero_add]
  refine hv.cell (k * 5 + j) ?_
  rw [List.getElem?_toArray]
  by_cases hkf : k < nf
  · have hx : fr[k]? = some x := by
      unfold pad at hk
      rw [List.getElem?_take_of_lt hkn, List.getElem?_append_left (by omega)] at hk
      exact hk
    have hx2 : (fr.take n)[k]? = some x := by rw [List.getElem?_take_of_lt hkn]; exact hx
    have := flat_at rwcell 5 (fun _ => rfl) hx2 j hj
    rw [List.getElem?_append_left (by have : min n nf ≥ k + 1 := by omega
                                      omega)]
    rw [show (rwcells (fr.take n))[k * 5 + j]? = _ from this, hu]
  · have hx : x = noRw := by
      unfold pad at hk
      rw [List.getElem?_take_of_lt hkn, List.getElem?_append_right (by omega)] at hk
      have := List.mem_of_getElem? hk
      exact List.eq_of_mem_replicate this
    subst hx
    rw [List.getElem?_append_right (by omega), List.getElem?_drop, show (rwcells (fr.take n)).length + (k * 5 + j - (rwcells (fr.take n)).length) = k * 5 + j by omega, Array.getElem?_toList, made_at n _ (by omega), show (k * 5 + j) % 5 = j by omega, hu]

/-- 'append(v, x)' of one row that was just built: what else is of another type is as it was. -/
theorem append_row {P : Program} {w : World} {t e ty : TypeId} {z : Value} {s bytes : Nat} (ht : P.underlying t = some (.slice e)) (hinfo : (P.info? e).map (fun i => (i.zero, i.size, i.bytes)) = some (some z, s, bytes)) (hzs : z.cells.size = s) (hs0 : 0 < s) (hby : bytes ≤ 1000)
    {base n c B : Nat} {v : Value} {xs news : List Value} {A : Option Addr} (hown : w.ownsRow base e s v n xs) (hl : news.length = s) (h1 : ∀ u ∈ news, u.oneCell' = true) (hr : Seen w B A news) (hbase : base ≤ w.heap.size) (hn : n ≤ 1000) :
    ∃ A' c' w', (Builtin.append_ #[t, t] ty #[v, .slice A 1 c]).run P w = .ok (.slice A' (n + 1) c') w' ∧ w'.ownsRow base e s (.slice A' (n + 1) c') (n + 1) (xs ++ news) ∧ Below base w w' ∧ ∀ k, k < w.heap.size → ¬ Typed w k e → w'.heap[k]? = w.heap[k]? := by
  obtain ⟨i, hi, hz, hsz, hbt⟩ := info_partsN hinfo
  obtain ⟨b, off, rfl, _, hc⟩ := hr (by intro e; rw [e] at hl; simp at hl; omega)
  have hbb : (n + 1) * bytes ≤ 1001 * 1000 := Nat.mul_le_mul (by omega) hby
  obtain ⟨v', w', hrun, h2, h3, _⟩ := run_append_own (P := P) w base t ty e i z s bytes ht hi hz hsz hbt hzs hs0 v n xs hown ⟨b, off, none⟩ 1 c news (by rw [hl]; omega) (fun j u hu => by rw [plain_add]; exact hc j u hu) h1 (by unfold maxLen; omega) (by omega) hbase
  obtain ⟨A', c', rfl, _, _⟩ := own_formN h2
  refine ⟨A', c', w', hrun, h2, grown_low h3 hbase (fun g hg => (hown.lt g hg).1), fun k hk hT => h3.block k hk (fun he => hT ?_)⟩
  rcases hown.2 with ⟨rfl, _⟩ | ⟨g, cap, cur, rfl, _, hq, _⟩
  · simp [Value.ownBlock] at he
  · simp only [Value.ownBlock, Option.some.injEq] at he
    subst he
    exact ⟨_, _, hq⟩
theorem step_append_row {P : Program} {w : World} {ops : Array Oper} {o : Oper} {a : Act} {K : Act → World → Prop} {Q : Exit → Act → World → Prop} {E : Prop} (hgd : o.guard = none) (s' x : Operand) {t e : TypeId}
    (ho : o.op = .call { callee := .builtin .append, args := #[s', x], argTypes := #[t, t] }) {z : Value} {s bytes : Nat} (ht : P.underlying t = some (.slice e)) (hinfo : (P.info? e).map (fun i => (i.zero, i.size, i.bytes)) = some (some z, s, bytes)) (hzs : z.cells.size = s) (hs0 : 0 < s) (hby : bytes ≤ 1000)
    {base n c B : Nat} {v : Value} {xs news : List Value} {A : Option Addr} (hv : a.eval s' = v) (hx : a.eval x = .slice A 1 c) (hown : w.ownsRow base e s v n xs) (hl : news.length = s) (h1 : ∀ u ∈ news, u.oneCell' = true) (hr : Seen w B A news) (hbase : base ≤ w.heap.size) (hn : n ≤ 1000)
    (h : ∀ A' c' w', w'.ownsRow base e s (.slice A' (n + 1) c') (n + 1) (xs ++ news) → Below base w w' → (∀ k, k < w.heap.size → ¬ Typed w k e → w'.heap[k]? = w.heap[k]?) → K (a.put o.dst (.slice A' (n + 1) c')) w') : if Region.wanted o (yielded ops a.tmps) = true then Oper.wp P o a w K Q else E := by
  have hw : Region.wanted o (yielded ops a.tmps) = true := by simp [Region.wanted, hgd]
  rw [if_pos hw]
  obtain ⟨A', c', w', hrun, k1, k2, k3⟩ := append_row (P := P) (ty := o.type) (c := c) ht hinfo hzs hs0 hby hown hl h1 hr hbase hn
  unfold Oper.wp execOp
  simp only [ho, resolve, invoke, builtin, Sem.run_bind, Sem.run_pure, Result.andThen_ok, List.map_toArray, List.map_cons, List.map_nil, hv, hx, hrun]
  exact h A' c' w' k1 k2 k3
section
variable {P : Pass} {M : PIn P} {w w' : World} {W : Nat} {wr : Int} {m : Nat} {A : Array Value} {s : Ws P} {base : Nat}
/-- Rows of the call's own grown: the walk is as it was. -/
theorem Wk.rowed (h : Wk M w W wr m A s) (hb : Below base w w') (hW : W < base) (hk : ∀ k, k < w.heap.size → ¬ Typed w k 37 → w'.heap[k]? = w.heap[k]?) : Wk M w' W wr m A s := by
  obtain ⟨er, hv, he⟩ := h.var
  have hl := h.lt
  refine ⟨⟨er, hv.below hb hW, ?_⟩, M.kq h.rep ⟨hb.size, fun k hkk hs => ?_⟩, h.lt, h.a0, h.a1, h.asz⟩
  · have key : ∀ {m : Nat} {er : Value}, Chain w W wr m er → Chain w' W wr m er := by
      intro m
      induction m with
      | zero => exact fun h => h.elim
      | succ m ih =>
        rintro er ⟨i, fld, u, a, b', c, d⟩
        refine ⟨i, fld, u, a, b', (hk i (Var.lt c) (fun ht => ?_)).trans c, ?_⟩
        · have := Typed.one (Var.typed c) ht
          revert this
          decide
        · rcases d with d | d
          · exact .inl d
          · exact .inr (ih d)
    rcases he with he | ⟨h1, h2⟩
    · exact .inl he
    · exact .inr ⟨h1, key h2⟩
  · rcases hs with rfl | ⟨_, ht⟩
    · exact hb.block _ (by omega)
    · refine hk k hkk (fun ht2 => ?_)
      have := ht.one ht2
      revert this
      decide
theorem Tn.low {S : List Nat} {a : World} (h : Tn S a w) (hb : Below base w w') (hB : a.heap.size ≤ base) : Tn S a w' :=
  ⟨hb.os.trans h.os, hb.tape.trans h.tape, hb.output.trans h.output, Nat.le_trans h.size hb.size, fun i hi hn ht => by rw [hb.block i (by omega), h.block i hi hn ht]⟩
theorem set_set {A : Array Value} {i : Nat} (u v : Value) : (A.setIfInBounds i u).setIfInBounds i v = A.setIfInBounds i v := by
  refine Array.ext' ?_
  rw [Array.toList_setIfInBounds, Array.toList_setIfInBounds, Array.toList_setIfInBounds, List.set_set]
theorem set_same {A : Array Value} {i : Nat} {u : Value} (h : A[i]? = some u) : A.setIfInBounds i u = A := by
  refine Array.ext' ?_
  rw [Array.toList_setIfInBounds]
  have h2 : A.toList[i]? = some u := by rw [Array.getElem?_toList]; exact h
  refine List.ext_getElem? fun j => ?_
  rw [List.getElem?_set]
  by_cases hij : i = j
  · subst hij
    rw [if_pos rfl, if_pos (List.getElem?_eq_some_iff.1 h2).1, h2]
  · rw [if_neg hij]
theorem set_at {A : Array Value} {i : Nat} (h : i < A.size) (u : Value) : (A.setIfInBounds i u)[i]? = some u := by
  rw [Array.getElem?_setIfInBounds_self_of_lt h]
theorem seen_row (W : World) (r : Rw) (T : TypeId) (x : Nat) (hx : W.heap.size = x) : Seen (W.alloc (.cells #[.int .i64 r.off, .int .i64 r.pid, .int .i64 r.sq, .string r.k, .string r.v] T)) (x + 1) (some ⟨x, 0, none⟩) (rwcell r) := by
  subst hx
  exact Seen.new W (rwcell r) T
end
end Go.Proofs.YtplpagnnlggfgaaDoor
