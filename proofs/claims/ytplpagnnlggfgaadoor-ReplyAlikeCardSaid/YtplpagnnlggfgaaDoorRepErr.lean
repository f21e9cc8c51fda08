/-
  errors.Is and errors.As at the error of a field of a reply, and reply's code. Conditions: the one package variable of errors holds what the program's text lays (Glob); that the error lies in memory.
-/
import Derived.Test.YtplpagnnlggfgaaDoorRepErrA
namespace Go.Proofs.YtplpagnnlggfgaaDoor
open Go.RowKit Go.Extern.Stop Go.Stop Go.Extern

theorem eq_none (W : World) : (binOp .eql 40 .nilIface (.iface 23 (.int .i64 2))).run Tryd.prog W = .ok (.bool false) W := by kernel_rfl
set_option maxRecDepth 100000 in
theorem is_nil (w : World) : Calls Tryd.prog 17 #[.nilIface, numV 2] w fun e w' => e = .returned (.bool false) ∧ Below w.heap.size w w' := by
  have hq := eq_none
  go_enter Tryd.func17, Tryd.ntmps17
  go_wp2
  go_ret
  exact ⟨rfl, Below.refl _ _⟩
/-- What an error tells: none, or the number that it wraps. -/
def ErrAt (w : World) (lo : Nat) (n : Int) (m : Nat) (bad : Bool) (er : Value) : Prop := (bad = false ∧ er = .nilIface) ∨ (bad = true ∧ Chain w lo n m er)
theorem is_any (w : World) (lo : Nat) (bad : Bool) (er : Value) (h : ErrAt w lo 2 2 bad er) : Calls Tryd.prog 17 #[er, numV 2] w fun e w' => e = .returned (.bool bad) ∧ Below w.heap.size w w' := by
  rcases h with ⟨rfl, rfl⟩ | ⟨rfl, h, fld, u, rfl, _, hf, rfl | ⟨h2, fld2, u2, rfl, _, hf2, rfl | hn⟩⟩
  · exact is_nil w
  · exact is_f1 h fld w hf
  · exact is_f2 h fld h2 fld2 w hf hf2
  · exact hn.elim
theorem as_any (w : World) (lo g : Nat) (n : Int) (o : Value) (er : Value) (hG : Glob w) (ht : Var w g 23 #[o]) (h : Chain w lo n 2 er) : Calls Tryd.prog 21 #[er, .iface 59 (.pointer (some ⟨g, 0, none⟩))] w (AsPost true g 23 #[.int .i64 n] w) := by
  obtain ⟨h, fld, u, rfl, _, hf, rfl | ⟨h2, fld2, u2, rfl, _, hf2, rfl | hn⟩⟩ := h
  · exact as_f1 h fld g n o w hG ht hf
  · exact as_f2 h fld h2 fld2 g n o w hG ht hf hf2
  · exact hn.elim
theorem code_nil (w : World) : Calls Tryd.prog 14 #[.nilIface] w fun r w' => r = .returned (.int .i64 0) ∧ Below w.heap.size w w' := by
  have b0 := below_new (w := w) (.cells #[.int .i64 0] 23)
  go_enter Tryd.func14, Tryd.ntmps14
  go_wp2_with fail
  refine (as_nil _ _).mono ?_
  rintro e w1 ⟨rfl, rfl⟩
  go_wp2
  go_ret
  exact ⟨rfl, b0⟩
set_option maxRecDepth 100000 in
theorem code_flt (lo : Nat) (er : Value) (n : Int) (w : World) (hG : Glob w) (hf : Chain w lo n 2 er) : Calls Tryd.prog 14 #[er] w fun r w' => r = .returned (.int .i64 n) ∧ Below w.heap.size w w' := by
  obtain ⟨W0, hW0⟩ : ∃ W0, W0 = w.alloc (.cells #[.int .i64 0] 23) := ⟨_, rfl⟩
  have v0 : Var W0 w.heap.size 23 #[.int .i64 0] := by rw [hW0]; exact Var.new _ _ _
  have b0 : Below w.heap.size w W0 := by rw [hW0]; exact below_new _
  have f0 : Chain W0 lo n 2 er := Chain.turn (fun h T cs _ _ hv => hv.below b0 hv.lt) hf
  have g0 := hG.next b0
  have HW0 := Lib.hid hW0
  have HG := Lib.hid g0
  have HF := Lib.hid f0
  clear hW0 hf hG f0 g0
  go_enter Tryd.func14, Tryd.ntmps14
  go_wp2_with fail
  rw [← HW0.out]
  refine (as_any W0 lo w.heap.size n _ er HG.out v0 HF.out).mono ?_
  rintro e w1 ⟨rfl, v1, k1⟩
  have c1 := v1.cell 0 rfl
  have z1 := v1.lt
  have b1 := b0.trans (k1.below (B := w.heap.size) b0.size (by intro x hx; simp at hx; omega))
  clear v1 v0 HG HF HW0
  go_wp2
  go_ret
  exact ⟨rfl, b1⟩
/-- code of whatever error. -/
def codeOf (bad : Bool) (n : Int) : Int := if bad = true then n else 0
theorem code_any (lo : Nat) (bad : Bool) (er : Value) (n : Int) (w : World) (hG : Glob w) (hf : ErrAt w lo n 2 bad er) : Calls Tryd.prog 14 #[er] w fun r w' => r = .returned (.int .i64 (codeOf bad n)) ∧ Below w.heap.size w w' := by
  rcases hf with ⟨rfl, rfl⟩ | ⟨rfl, hf⟩
  · exact code_nil w
  · exact code_flt lo er n w hG hf
end Go.Proofs.YtplpagnnlggfgaaDoor
