/-
  A struct of many cells loaded and stored as one; a world named by what is known of it. No conditions.
  Appending one element to a slice that is the call's own: laws for the walks. Conditions: those that each names.
  A region that draws its order, walked by hand: operations that yield their value in every world that meets a condition are taken first, one behind the other; the condition may be made stronger on the way. No conditions.
-/
import Derived.Test.YtplpagnnlggfgaaDoorRepG6
import Derived.Laws.Rows
import Derived.Deep.MidRow
import Derived.BigFrame
import Derived.Laws.ResultCell
import Derived.Test.YtplpagnnlggfgaaDoorRepG3
import Derived.Deep.RegionHeld3
namespace Go.Proofs.YtplpagnnlggfgaaDoor
open Go.RowKit

theorem bodyPost_at {P : Program} {fn : Func} {R : Ending → World → Prop} {e : Exit} {a : Act} {W : World} (C : World → Prop) (h : C W) (k : ∀ W9, C W9 → bodyPost P fn R e a W9) : bodyPost P fn R e a W := k W h
theorem wp_at {P : Program} {c : Code} {Q : Exit → Act → World → Prop} {a : Act} {W : World} (C : World → Prop) (h : C W) (k : ∀ W9, C W9 → c.wp P Q a W9) : c.wp P Q a W := k W h
theorem wpList_at {P : Program} {ops : Array Oper} {l : List Oper} {Q : Exit → Act → World → Prop} {a : Act} {W : World} (C : World → Prop) (h : C W) (k : ∀ W9, C W9 → wpList P ops Q l a W9) : wpList P ops Q l a W := k W h
/-- Only block g has turned. -/
structure Only (g : Nat) (w w' : World) : Prop where
  os : w'.os = w.os
  tape : w'.tape = w.tape
  output : w'.output = w.output
  size : w'.heap.size = w.heap.size
  block : ∀ k, k ≠ g → w'.heap[k]? = w.heap[k]?
theorem Only.refl (g : Nat) (w : World) : Only g w w := ⟨rfl, rfl, rfl, rfl, fun _ _ => rfl⟩
theorem Only.trans {g : Nat} {a b c : World} (h : Only g a b) (k : Only g b c) : Only g a c := ⟨k.os.trans h.os, k.tape.trans h.tape, k.output.trans h.output, k.size.trans h.size, fun i hi => (k.block i hi).trans (h.block i hi)⟩
theorem Only.setCell (g i : Nat) (v : Value) (w : World) : Only g w (w.setCell ⟨g, i, none⟩ v) := ⟨rfl, rfl, rfl, by simp [World.setCell], fun k hk => Below.heap_setCell _ _ _ _ hk⟩
theorem Only.below {g B : Nat} {w a b : World} (h : Below B w a) (k : Only g a b) (hg : B ≤ g) : Below B w b :=
  ⟨k.os.trans h.os, k.tape.trans h.tape, k.output.trans h.output, by rw [k.size]; exact h.size, fun i hi => (k.block i (by omega)).trans (h.block i hi)⟩
theorem Only.var {g g' T : Nat} {cs : Array Value} {a b : World} (k : Only g a b) (h : Var a g' T cs) (hg : g' ≠ g) : Var b g' T cs := (k.block g' hg).trans h
theorem Only.kept {g : Nat} {S : List Nat} {w a b : World} (h : Kept S w a) (k : Only g a b) (hg : g ∈ S ∨ w.heap.size ≤ g) : Kept S w b :=
  h.then (S' := [g]) ⟨k.os, k.tape, k.output, by rw [k.size]; exact Nat.le_refl _, fun i _ hi => k.block i (by simpa using hi)⟩ (by intro x hx; simp at hx; subst hx; exact hg)
theorem Only.own {g base e n size : Nat} {v : Value} {xs : List Value} {a b : World} (h : a.ownsRow base e size v n xs) (k : Only g a b) (hg : g < base) : b.ownsRow base e size v n xs := by
  refine ⟨h.1, ?_⟩
  rcases h.2 with h0 | ⟨q, cap, cur, hv, hb, hq, hr⟩
  · exact .inl h0
  · exact .inr ⟨q, cap, cur, hv, hb, (k.block q (by omega)).trans hq, hr⟩
theorem setCells_var {g T : Nat} : ∀ (vs : List Value) (i : Nat) (pre rest : List Value) (W : World), pre.length = i → rest.length = vs.length → Var W g T (pre ++ rest).toArray → Var (W.setCells g i vs) g T (pre ++ vs).toArray
  | [], _, pre, rest, W, _, hr, h => by
    obtain rfl : rest = [] := List.eq_nil_of_length_eq_zero hr
    exact h
  | v :: vs, i, pre, [], W, hp, hr, h => by simp at hr
  | v :: vs, i, pre, r :: rest, W, hp, hr, h => by
    have h1 := h.set i v
    rw [List.setIfInBounds_toArray, List.set_append_right i v (by omega), show i - pre.length = 0 by omega, List.set_cons_zero] at h1
    have h2 := setCells_var vs (i + 1) (pre ++ [v]) rest (W.setCell ⟨g, i, none⟩ v) (by simp; omega) (by simpa using hr) (by simpa using h1)
    simpa [World.setCells] using h2
theorem setCells_only {g : Nat} : ∀ (vs : List Value) (i : Nat) (W : World), Only g W (W.setCells g i vs)
  | [], _, W => Only.refl g W
  | v :: vs, i, W => (Only.setCell g i v W).trans (setCells_only vs (i + 1) _)
section
variable {P : Program} {w : World} {g T ty : Nat} {cs cells : Array Value}
/-- A struct that fills a block, loaded. -/
theorem wpList_load_var {ops : Array Oper} {rest : List Oper} {o : Oper} {a : Act} {Q : Exit → Act → World → Prop} (hgd : o.guard = none) (x : Operand) (ho : o.op = .load ty x) {d : TypeDesc} (hu : P.underlying ty = some d) (hd : (match d with | .struct _ | .array _ _ => true | _ => false) = true)
    (hx : a.eval x = .pointer (some ⟨g, 0, none⟩)) (hv : Var w g T cs) (hi : (P.info? ty).map (·.size) = some cs.size) (h : wpList P ops Q rest (a.put o.dst (.agg cs)) w) : wpList P ops Q (o :: rest) a w :=
  wpList_load_row hgd ty x ho g hx T cs (0, 0) d hv hu hd hi h
/-- .. where a guard lets it. -/
theorem wpList_load_want {ops : Array Oper} {rest : List Oper} {o : Oper} {a : Act} {Q : Exit → Act → World → Prop} (hw : Region.wanted o (yielded ops a.tmps) = true) (x : Operand) (ho : o.op = .load ty x) {d : TypeDesc} (hu : P.underlying ty = some d) (hd : (match d with | .struct _ | .array _ _ => true | _ => false) = true)
    (hx : a.eval x = .pointer (some ⟨g, 0, none⟩)) (hv : Var w g T cs) (hi : (P.info? ty).map (·.size) = some cs.size) (h : wpList P ops Q rest (a.put o.dst (.agg cs)) w) : wpList P ops Q (o :: rest) a w :=
  BigFrame.wpList_want hw fun _ hK => wp_load_row ty x ho g hx T cs (0, 0) d hv hu hd hi (hK _ _ h)
/-- A struct that fills a block, stored. -/
theorem wpList_store_var {ops : Array Oper} {rest : List Oper} {o : Oper} {a : Act} {Q : Exit → Act → World → Prop} (hgd : o.guard = none) (x y : Operand) (ho : o.op = .store ty x y)
    (hx : a.eval x = .pointer (some ⟨g, 0, none⟩)) (hy : a.eval y = .agg cells) (hv : Var w g T cs) (hs : cs.size = cells.size) (hi : (P.info? ty).map (·.size) = some cells.size) (h1 : cells.all (·.oneCell') = true)
    (h : ∀ w', Var w' g T cells → Only g w w' → wpList P ops Q rest (a.put o.dst undef) w') : wpList P ops Q (o :: rest) a w := by
  refine wpList_store_mid hgd ty x y ho g 0 cells hx hy (fun j hj => ?_) hi h1 (h _ ?_ (setCells_only _ _ _))
  · rw [Nat.zero_add]
    have hlt : j < cs.size := by omega
    exact ⟨by rw [hv.cell j (Array.getElem?_eq_getElem hlt)]; rfl, hv.free j⟩
  · have := setCells_var (g := g) (T := T) cells.toList 0 [] cs.toList w rfl (by simpa using hs) (by simpa using hv)
    simpa using this
end
/-- The result of a function that returns one struct which fills a block. -/
theorem results_var {P : Program} {fn : Func} {W : World} {g k T ty : Nat} {cs : Array Value} {a : Act} {d : TypeDesc} (hf : fn.results = #[.cell k ty]) (ha : a.tmps[k]? = some (.pointer (some ⟨g, 0, none⟩))) (h : Var W g T cs) (hu : P.underlying ty = some d) (hd : (match d with | .struct _ | .array _ _ => true | _ => false) = true) (hi : (P.info? ty).map (·.size) = some cs.size) :
    (results fn a.tmps).run P W = .ok (.agg cs) W := by
  refine results_cell_row hf _ W g T _ (0, 0) d ?_ h hu hd hi
  rw [Array.getD_eq_getD_getElem?, ha]
  rfl
theorem results_var_tmp {P : Program} {fn : Func} {W : World} {g k u T ty : Nat} {v : Value} {cs : Array Value} {a : Act} {d : TypeDesc} (hf : fn.results = #[.cell k ty, .tmp u]) (ha : a.tmps[k]? = some (.pointer (some ⟨g, 0, none⟩))) (hv : a.tmps[u]? = some v) (h : Var W g T cs) (hu : P.underlying ty = some d)
    (hd : (match d with | .struct _ | .array _ _ => true | _ => false) = true) (hi : (P.info? ty).map (·.size) = some cs.size) : (results fn a.tmps).run P W = .ok (.tuple #[.agg cs, v]) W := by
  rw [results_cell_tmp hf, Array.getD_eq_getD_getElem?, Array.getD_eq_getD_getElem?, ha, hv]
  simp [asAddr, run_loadVar_row W g T ty cs (0, 0) d h hu hd hi]
end Go.Proofs.YtplpagnnlggfgaaDoor

namespace Go.Proofs.YtplpagnnlggfgaaDoor
open Go.RowKit

theorem own_formN {w : World} {base n s : Nat} {e : TypeId} {v : Value} {xs : List Value} (h : w.ownsRow base e s v n xs) : ∃ A c, v = .slice A n c ∧ Seen w w.heap.size A xs ∧ n ≤ c := by
  rcases h.2 with ⟨rfl, h0⟩ | ⟨g, cap, cur, rfl, _, hg, hnc, _⟩
  · subst h0
    exact ⟨none, 0, rfl, fun hx => absurd (List.eq_nil_of_length_eq_zero (by rw [h.1]; simp)) hx, Nat.le_refl _⟩
  · refine ⟨_, cap, rfl, fun _ => ⟨g, 0, rfl, heap_lt hg, fun j u hu => ?_⟩, hnc⟩
    have := h.cells (g := g) rfl j u hu
    rwa [plain_add] at this
theorem own_next {w w' : World} {base e n size : Nat} {v : Value} {xs : List Value} (h : w.ownsRow base e size v n xs) (hb : Below w.heap.size w w') : w'.ownsRow base e size v n xs := by
  refine ⟨h.1, ?_⟩
  rcases h.2 with h0 | ⟨g, cap, cur, hv, hbg, hg, hr⟩
  · exact .inl h0
  · exact .inr ⟨g, cap, cur, hv, hbg, (hb.block g (heap_lt hg)).trans hg, hr⟩
theorem own_down {w : World} {base base' e n size : Nat} {v : Value} {xs : List Value} (h : w.ownsRow base e size v n xs) (hb : base' ≤ base) : w.ownsRow base' e size v n xs := by
  refine ⟨h.1, ?_⟩
  rcases h.2 with h0 | ⟨g, cap, cur, hv, hbg, hr⟩
  · exact .inl h0
  · exact .inr ⟨g, cap, cur, hv, Nat.le_trans hb hbg, hr⟩
theorem grown_low {w w' : World} {row : Option Nat} {B : Nat} (h : w.grownBy w' row) (hB : B ≤ w.heap.size) (hr : ∀ g, row = some g → B ≤ g) : Below B w w' :=
  ⟨h.os, h.tape, h.output, h.size, fun k hk => h.block k (by omega) (fun e => by have := hr k e.symm; omega)⟩
theorem info_partsN {P : Program} {e : TypeId} {z : Value} {s b : Nat} (h : (P.info? e).map (fun i => (i.zero, i.size, i.bytes)) = some (some z, s, b)) : ∃ i, P.info? e = some i ∧ i.zero = some z ∧ i.size = s ∧ i.bytes = b := by
  obtain ⟨i, hi, hzz⟩ := Option.map_eq_some_iff.1 h
  simp only [Prod.mk.injEq] at hzz
  exact ⟨i, hi, hzz.1, hzz.2.1, hzz.2.2⟩

/-- 'append(v, x)' of one element that was just built. -/
theorem append_one {P : Program} {w : World} {t e ty : TypeId} {z : Value} {s bytes : Nat} (ht : P.underlying t = some (.slice e)) (hinfo : (P.info? e).map (fun i => (i.zero, i.size, i.bytes)) = some (some z, s, bytes)) (hzs : z.cells.size = s) (hs0 : 0 < s) (hby : bytes ≤ 1000)
    {base n c B : Nat} {v : Value} {xs news : List Value} {A : Option Addr} (hown : w.ownsRow base e s v n xs) (hl : news.length = s) (h1 : ∀ u ∈ news, u.oneCell' = true) (hr : Seen w B A news) (hbase : base ≤ w.heap.size) (hn : n ≤ 1000) :
    ∃ A' c' w', (Builtin.append_ #[t, t] ty #[v, .slice A 1 c]).run P w = .ok (.slice A' (n + 1) c') w' ∧ w'.ownsRow base e s (.slice A' (n + 1) c') (n + 1) (xs ++ news) ∧ Below base w w' := by
  obtain ⟨i, hi, hz, hsz, hbt⟩ := info_partsN hinfo
  obtain ⟨b, off, rfl, _, hc⟩ := hr (by intro e; rw [e] at hl; simp at hl; omega)
  have hbb : (n + 1) * bytes ≤ 1001 * 1000 := Nat.mul_le_mul (by omega) hby
  obtain ⟨v', w', hrun, h2, h3, _⟩ := run_append_own (P := P) w base t ty e i z s bytes ht hi hz hsz hbt hzs hs0 v n xs hown ⟨b, off, none⟩ 1 c news (by rw [hl]; omega) (fun j u hu => by rw [plain_add]; exact hc j u hu) h1 (by unfold maxLen; omega) (by omega) hbase
  obtain ⟨A', c', rfl, _, _⟩ := own_formN h2
  exact ⟨A', c', w', hrun, h2, grown_low h3 hbase (fun g hg => (hown.lt g hg).1)⟩

/-- .. as a law for the walk. -/
theorem wpList_append_one {P : Program} {w : World} {ops : Array Oper} {rest : List Oper} {o : Oper} {a : Act} {Q : Exit → Act → World → Prop} (hgd : o.guard = none) (s' x : Operand) {t e : TypeId}
    (ho : o.op = .call { callee := .builtin .append, args := #[s', x], argTypes := #[t, t] }) {z : Value} {s bytes : Nat} (ht : P.underlying t = some (.slice e)) (hinfo : (P.info? e).map (fun i => (i.zero, i.size, i.bytes)) = some (some z, s, bytes)) (hzs : z.cells.size = s) (hs0 : 0 < s) (hby : bytes ≤ 1000)
    {base n c B : Nat} {v : Value} {xs news : List Value} {A : Option Addr} (hv : a.eval s' = v) (hx : a.eval x = .slice A 1 c) (hown : w.ownsRow base e s v n xs) (hl : news.length = s) (h1 : ∀ u ∈ news, u.oneCell' = true) (hr : Seen w B A news) (hbase : base ≤ w.heap.size) (hn : n ≤ 1000)
    (h : ∀ A' c' w', w'.ownsRow base e s (.slice A' (n + 1) c') (n + 1) (xs ++ news) → Below base w w' → wpList P ops Q rest (a.put o.dst (.slice A' (n + 1) c')) w') : wpList P ops Q (o :: rest) a w := by
  obtain ⟨A', c', w', hrun, k1, k2⟩ := append_one (ty := o.type) (c := c) ht hinfo hzs hs0 hby hown hl h1 hr hbase hn
  refine wpList_plain hgd fun K hK => ?_
  unfold Oper.wp execOp
  simp only [ho, resolve, invoke, builtin, Sem.run_bind, Sem.run_pure, Result.andThen_ok, List.map_toArray, List.map_cons, List.map_nil, hv, hx, hrun]
  exact hK _ _ (h A' c' w' k1 k2)
/-- .. as one step of a region that draws its order. -/
theorem step_append_one {P : Program} {w : World} {ops : Array Oper} {o : Oper} {a : Act} {K : Act → World → Prop} {Q : Exit → Act → World → Prop} {E : Prop} (hgd : o.guard = none) (s' x : Operand) {t e : TypeId}
    (ho : o.op = .call { callee := .builtin .append, args := #[s', x], argTypes := #[t, t] }) {z : Value} {s bytes : Nat} (ht : P.underlying t = some (.slice e)) (hinfo : (P.info? e).map (fun i => (i.zero, i.size, i.bytes)) = some (some z, s, bytes)) (hzs : z.cells.size = s) (hs0 : 0 < s) (hby : bytes ≤ 1000)
    {base n c B : Nat} {v : Value} {xs news : List Value} {A : Option Addr} (hv : a.eval s' = v) (hx : a.eval x = .slice A 1 c) (hown : w.ownsRow base e s v n xs) (hl : news.length = s) (h1 : ∀ u ∈ news, u.oneCell' = true) (hr : Seen w B A news) (hbase : base ≤ w.heap.size) (hn : n ≤ 1000)
    (h : ∀ A' c' w', w'.ownsRow base e s (.slice A' (n + 1) c') (n + 1) (xs ++ news) → Below base w w' → K (a.put o.dst (.slice A' (n + 1) c')) w') : if Region.wanted o (yielded ops a.tmps) = true then Oper.wp P o a w K Q else E := by
  have hw : Region.wanted o (yielded ops a.tmps) = true := by simp [Region.wanted, hgd]
  rw [if_pos hw]
  obtain ⟨A', c', w', hrun, k1, k2⟩ := append_one (ty := o.type) (c := c) ht hinfo hzs hs0 hby hown hl h1 hr hbase hn
  unfold Oper.wp execOp
  simp only [ho, resolve, invoke, builtin, Sem.run_bind, Sem.run_pure, Result.andThen_ok, List.map_toArray, List.map_cons, List.map_nil, hv, hx, hrun]
  exact h A' c' w' k1 k2
theorem seen_rec (W : World) (r : Rc) (T : TypeId) (x : Nat) (hx : W.heap.size = x) : Seen (W.alloc (.cells #[.string r.k, .string r.v] T)) (x + 1) (some ⟨x, 0, none⟩) (rcell r) := by
  subst hx
  exact Seen.new W (rcell r) T
end Go.Proofs.YtplpagnnlggfgaaDoor

namespace Go
section
variable {P : Program} {ops : Array Oper} {Q : Exit → Act → World → Prop} {md : Region.Mode} {S S' : World → Prop}

/-- A stronger condition serves. -/
theorem fld_turn (hS : ∀ w, S' w → S w) : ∀ (fuel : Nat) (listed : Array Bool) (a : Act) (w : World), wpAnyH P md ops Q S' fuel listed a w → wpAnyH P md ops Q S fuel listed a w
  | 0, _, _, _, h => h
  | fuel + 1, _, _, _, h => ⟨h.1, fun i hi => wpOp_mono (fun _ _ h' => ⟨hS _ h'.1, fld_turn hS fuel _ _ _ h'.2⟩) (h.2 i hi)⟩

/-- Those may be taken, one behind the other. -/
def fldTakesB (md : Region.Mode) (ops : Array Oper) : List Nat → Array Bool → Bool
  | [], _ => true
  | i :: r, listed => Region.free md ops listed i && (Region.ready md ops listed).contains i && fldTakesB md ops r (listed.setIfInBounds i true)
def fldListed : List Nat → Array Bool → Array Bool
  | [], l => l
  | i :: r, l => fldListed r (l.setIfInBounds i true)
/-- Each yields its value, one behind the other. -/
def FldTaken (P : Program) (ops : Array Oper) (S : World → Prop) : List Nat → (Act → Prop) → Act → Prop
  | [], K, a => K a
  | i :: r, K, a => ∃ o v, ops[i]? = some o ∧ YieldsIf P ops S o v a ∧ FldTaken P ops S r K (a.put o.dst v)

theorem fld_takes_go (hsel : Region.noSelect ops = true) (hQ : ∀ c d v (a : Act) w, Q (.panic c) (a.put d v) w → Q (.panic c) a w) :
    ∀ (is : List Nat) (n fuel : Nat) (listed : Array Bool) (a : Act) (w : World), n = is.length + fuel → fldTakesB md ops is listed = true → S w →
      FldTaken P ops S is (fun a' => wpAnyH P md ops Q S fuel (fldListed is listed) a' w) a → wpAnyH P md ops Q S n listed a w
  | [], n, fuel, listed, a, w, hn, _, _, h => by
    have : n = fuel := by simpa using hn
    subst this
    exact h
  | i :: r, n, fuel, listed, a, w, hn, hB, hS, h => by
    obtain ⟨o, v, ho, hy, hr⟩ := h
    simp only [fldTakesB, Bool.and_eq_true] at hB
    obtain ⟨m, rfl⟩ : ∃ m, n = m + 1 := ⟨r.length + fuel, by rw [hn, List.length_cons]; omega⟩
    exact wpAnyH_take ho hsel hB.1.1 hB.1.2 (fun c a w => hQ c _ _ a w) hy hS (fld_takes_go hsel hQ r m fuel _ _ w (by rw [List.length_cons] at hn; omega) hB.2 hS hr)
theorem fld_takes (is : List Nat) (n fuel : Nat) (listed : Array Bool) (a : Act) (w : World) (hsel : Region.noSelect ops = true) (hQ : ∀ c d v (a : Act) w, Q (.panic c) (a.put d v) w → Q (.panic c) a w)
    (hn : n = is.length + fuel) (hB : fldTakesB md ops is listed = true) (hS : S w) (h : FldTaken P ops S is (fun a' => wpAnyH P md ops Q S fuel (fldListed is listed) a' w) a) : wpAnyH P md ops Q S n listed a w :=
  fld_takes_go hsel hQ is n fuel listed a w hn hB hS h

theorem fld_taken_nil {K : Act → Prop} {a : Act} (h : K a) : FldTaken P ops S [] K a := h
/-- One that is wanted. -/
theorem fld_taken {K : Act → Prop} {a : Act} {i : Nat} {r : List Nat} {o : Oper} {v : Value} (ho : ops[i]? = some o) (hw : Region.wanted o (yielded ops a.tmps) = true) (hy : ∀ w, S w → (execOp a.eval o).run P w = .ok (.value v) w)
    (h : FldTaken P ops S r K (a.put o.dst v)) : FldTaken P ops S (i :: r) K a := ⟨o, v, ho, .inl ⟨hw, hy⟩, h⟩
/-- One that is not wanted. -/
theorem fld_skipped {K : Act → Prop} {a : Act} {i : Nat} {r : List Nat} {o : Oper} (ho : ops[i]? = some o) (hw : Region.wanted o (yielded ops a.tmps) = false)
    (h : FldTaken P ops S r K (a.put o.dst undef)) : FldTaken P ops S (i :: r) K a := ⟨o, undef, ho, .inr ⟨hw, rfl⟩, h⟩
/-- The only one that may come up. -/
theorem fld_alone {i fuel : Nat} {o : Oper} {listed : Array Bool} {a : Act} {w : World} (hr : Region.ready md ops listed = [i]) (ho : ops[i]? = some o) (hw : Region.wanted o (yielded ops a.tmps) = true)
    (h : ∀ K' : Act → World → Prop, Shut (∀ a w, S w → wpAnyH P md ops Q S fuel (listed.setIfInBounds i true) a w → K' a w) → Oper.wp P o a w K' Q) : wpAnyH P md ops Q S (fuel + 1) listed a w := by
  refine wpAnyH_ready hr (by simp) (AllReadyH.cons ho (fun K' hK => ?_) AllReadyH.nil)
  rw [if_pos hw]
  exact h K' (fun a w hS hW => hK.out a w hS (fun _ => hW))
end
end Go
