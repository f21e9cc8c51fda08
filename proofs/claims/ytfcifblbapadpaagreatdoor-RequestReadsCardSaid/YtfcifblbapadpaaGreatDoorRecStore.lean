/-
  A struct of many cells loaded and stored as one; a world named by what is known of it. No conditions.
-/
import Derived.Test.YtfcifblbapadpaaGreatDoorReqG6
import Derived.Laws.Rows
import Derived.Deep.MidRow
import Derived.BigFrame
import Derived.Laws.ResultCell
namespace Go.Proofs.YtfcifblbapadpaaGreatDoor
open Go.RowKit

theorem bodyPost_at {P : Program} {fn : Func} {R : Ending → World → Prop} {e : Exit} {a : Act} {W : World} (C : World → Prop) (h : C W) (k : ∀ W9, C W9 → bodyPost P fn R e a W9) : bodyPost P fn R e a W := k W h
theorem wp_at {P : Program} {c : Code} {Q : Exit → Act → World → Prop} {a : Act} {W : World} (C : World → Prop) (h : C W) (k : ∀ W9, C W9 → c.wp P Q a W9) : c.wp P Q a W := k W h
theorem wpList_at {P : Program} {ops : Array Oper} {l : List Oper} {Q : Exit → Act → World → Prop} {a : Act} {W : World} (C : World → Prop) (h : C W) (k : ∀ W9, C W9 → wpList P ops Q l a W9) : wpList P ops Q l a W := k W h
/-- Only block g has turned. -/
structure Only (g : Nat) (w w' : World) : Prop where
  os : w'.os = w.os
  tape : w'.tape = w.tape
  output : w'.output = w.output
  size : w'.heap.size = w.heap.size
  block : ∀ k, k ≠ g → w'.heap[k]? = w.heap[k]?
theorem Only.refl (g : Nat) (w : World) : Only g w w := ⟨rfl, rfl, rfl, rfl, fun _ _ => rfl⟩
theorem Only.trans {g : Nat} {a b c : World} (h : Only g a b) (k : Only g b c) : Only g a c := ⟨k.os.trans h.os, k.tape.trans h.tape, k.output.trans h.output, k.size.trans h.size, fun i hi => (k.block i hi).trans (h.block i hi)⟩
theorem Only.setCell (g i : Nat) (v : Value) (w : World) : Only g w (w.setCell ⟨g, i, none⟩ v) := ⟨rfl, rfl, rfl, by simp [World.setCell], fun k hk => Below.heap_setCell _ _ _ _ hk⟩
theorem Only.below {g B : Nat} {w a b : World} (h : Below B w a) (k : Only g a b) (hg : B ≤ g) : Below B w b :=
  ⟨k.os.trans h.os, k.tape.trans h.tape, k.output.trans h.output, by rw [k.size]; exact h.size, fun i hi => (k.block i (by omega)).trans (h.block i hi)⟩
theorem Only.var {g g' T : Nat} {cs : Array Value} {a b : World} (k : Only g a b) (h : Var a g' T cs) (hg : g' ≠ g) : Var b g' T cs := (k.block g' hg).trans h
theorem Only.kept {g : Nat} {S : List Nat} {w a b : World} (h : Kept S w a) (k : Only g a b) (hg : g ∈ S ∨ w.heap.size ≤ g) : Kept S w b :=
  h.then (S' := [g]) ⟨k.os, k.tape, k.output, by rw [k.size]; exact Nat.le_refl _, fun i _ hi => k.block i (by simpa using hi)⟩ (by intro x hx; simp at hx; subst hx; exact hg)
theorem Only.own {g base e n size : Nat} {v : Value} {xs : List Value} {a b : World} (h : a.ownsRow base e size v n xs) (k : Only g a b) (hg : g < base) : b.ownsRow base e size v n xs := by
  refine ⟨h.1, ?_⟩
  rcases h.2 with h0 | ⟨q, cap, cur, hv, hb, hq, hr⟩
  · exact .inl h0
  · exact .inr ⟨q, cap, cur, hv, hb, (k.block q (by omega)).trans hq, hr⟩
theorem setCells_var {g T : Nat} : ∀ (vs : List Value) (i : Nat) (pre rest : List Value) (W : World), pre.length = i → rest.length = vs.length → Var W g T (pre ++ rest).toArray → Var (W.setCells g i vs) g T (pre ++ vs).toArray
  | [], _, pre, rest, W, _, hr, h => by
    obtain rfl : rest = [] := List.eq_nil_of_length_eq_zero hr
    exact h
  | v :: vs, i, pre, [], W, hp, hr, h => by simp at hr
  | v :: vs, i, pre, r :: rest, W, hp, hr, h => by
    have h1 := h.set i v
    rw [List.setIfInBounds_toArray, List.set_append_right i v (by omega), show i - pre.length = 0 by omega, List.set_cons_zero] at h1
    have h2 := setCells_var vs (i + 1) (pre ++ [v]) rest (W.setCell ⟨g, i, none⟩ v) (by simp; omega) (by simpa using hr) (by simpa using h1)
    simpa [World.setCells] using h2
theorem setCells_only {g : Nat} : ∀ (vs : List Value) (i : Nat) (W : World), Only g W (W.setCells g i vs)
  | [], _, W => Only.refl g W
  | v :: vs, i, W => (Only.setCell g i v W).trans (setCells_only vs (i + 1) _)
section
variable {P : Program} {w : World} {g T ty : Nat} {cs cells : Array Value}
/-- A struct that fills a block, loaded. -/
theorem wpList_load_var {ops : Array Oper} {rest : List Oper} {o : Oper} {a : Act} {Q : Exit → Act → World → Prop} (hgd : o.guard = none) (x : Operand) (ho : o.op = .load ty x) {d : TypeDesc} (hu : P.underlying ty = some d) (hd : (match d with | .struct _ | .array _ _ => true | _ => false) = true)
    (hx : a.eval x = .pointer (some ⟨g, 0, none⟩)) (hv : Var w g T cs) (hi : (P.info? ty).map (·.size) = some cs.size) (h : wpList P ops Q rest (a.put o.dst (.agg cs)) w) : wpList P ops Q (o :: rest) a w :=
  wpList_load_row hgd ty x ho g hx T cs (0, 0) d hv hu hd hi h
/-- .. where a guard lets it. -/
theorem wpList_load_want {ops : Array Oper} {rest : List Oper} {o : Oper} {a : Act} {Q : Exit → Act → World → Prop} (hw : Region.wanted o (yielded ops a.tmps) = true) (x : Operand) (ho : o.op = .load ty x) {d : TypeDesc} (hu : P.underlying ty = some d) (hd : (match d with | .struct _ | .array _ _ => true | _ => false) = true)
    (hx : a.eval x = .pointer (some ⟨g, 0, none⟩)) (hv : Var w g T cs) (hi : (P.info? ty).map (·.size) = some cs.size) (h : wpList P ops Q rest (a.put o.dst (.agg cs)) w) : wpList P ops Q (o :: rest) a w :=
  BigFrame.wpList_want hw fun _ hK => wp_load_row ty x ho g hx T cs (0, 0) d hv hu hd hi (hK _ _ h)
/-- A struct that fills a block, stored. -/
theorem wpList_store_var {ops : Array Oper} {rest : List Oper} {o : Oper} {a : Act} {Q : Exit → Act → World → Prop} (hgd : o.guard = none) (x y : Operand) (ho : o.op = .store ty x y)
    (hx : a.eval x = .pointer (some ⟨g, 0, none⟩)) (hy : a.eval y = .agg cells) (hv : Var w g T cs) (hs : cs.size = cells.size) (hi : (P.info? ty).map (·.size) = some cells.size) (h1 : cells.all (·.oneCell') = true)
    (h : ∀ w', Var w' g T cells → Only g w w' → wpList P ops Q rest (a.put o.dst undef) w') : wpList P ops Q (o :: rest) a w := by
  refine wpList_store_mid hgd ty x y ho g 0 cells hx hy (fun j hj => ?_) hi h1 (h _ ?_ (setCells_only _ _ _))
  · rw [Nat.zero_add]
    have hlt : j < cs.size := by omega
    exact ⟨by rw [hv.cell j (Array.getElem?_eq_getElem hlt)]; rfl, hv.free j⟩
  · have := setCells_var (g := g) (T := T) cells.toList 0 [] cs.toList w rfl (by simpa using hs) (by simpa using hv)
    simpa using this
end
/-- The result of a function that returns one struct which fills a block. -/
theorem results_var {P : Program} {fn : Func} {W : World} {g k T ty : Nat} {cs : Array Value} {a : Act} {d : TypeDesc} (hf : fn.results = #[.cell k ty]) (ha : a.tmps[k]? = some (.pointer (some ⟨g, 0, none⟩))) (h : Var W g T cs) (hu : P.underlying ty = some d) (hd : (match d with | .struct _ | .array _ _ => true | _ => false) = true) (hi : (P.info? ty).map (·.size) = some cs.size) :
    (results fn a.tmps).run P W = .ok (.agg cs) W := by
  refine results_cell_row hf _ W g T _ (0, 0) d ?_ h hu hd hi
  rw [Array.getD_eq_getD_getElem?, ha]
  rfl
theorem results_var_tmp {P : Program} {fn : Func} {W : World} {g k u T ty : Nat} {v : Value} {cs : Array Value} {a : Act} {d : TypeDesc} (hf : fn.results = #[.cell k ty, .tmp u]) (ha : a.tmps[k]? = some (.pointer (some ⟨g, 0, none⟩))) (hv : a.tmps[u]? = some v) (h : Var W g T cs) (hu : P.underlying ty = some d)
    (hd : (match d with | .struct _ | .array _ _ => true | _ => false) = true) (hi : (P.info? ty).map (·.size) = some cs.size) : (results fn a.tmps).run P W = .ok (.tuple #[.agg cs, v]) W := by
  rw [results_cell_tmp hf, Array.getD_eq_getD_getElem?, Array.getD_eq_getD_getElem?, ha, hv]
  simp [asAddr, run_loadVar_row W g T ty cs (0, 0) d h hu hd hi]
end Go.Proofs.YtfcifblbapadpaaGreatDoor
