/-
  Contracts of reply's Bytes and May. Conditions: those that each theorem names; Bytes: the one package variable of errors holds what the program's text lays (Glob).
-/
import Derived.Test.YtplpagnnlggfgaaDoorRepWrite
namespace Go.Proofs.YtplpagnnlggfgaaDoor
open Go.RowKit

/-- What Bytes hands back. -/
def BtRes (a : Rp) (ok : Bool) (w : World) (e : Ending) (w' : World) : Prop :=
  Below w.heap.size w w' ∧ ((ok = true ∧ ∃ A c l, e = .returned (.tuple #[.slice A l c, .int .i64 0]) ∧ l = (renc a).length ∧ Seen w' w'.heap.size A (cells (renc a)) ∧ l ≤ c) ∨ (ok = false ∧ e = .returned (.tuple #[.slice none 0 0, .int .i64 2])))
set_option maxRecDepth 100000 in
set_option maxHeartbeats 1000000 in
theorem pbytes_any (a : Rp) (A : Option Addr) (n c B : Nat) (ok : Bool) (w : World) (hG : Glob w) (hx : RIn w B a A n c) (hB : B ≤ w.heap.size) (hfit : RpFit a) (hrows : ∀ r ∈ a.rows, RwFit r) (hok : WrOk a ok) :
    Calls Tryd.prog 8 #[.agg (rpvals a A n c)] w (BtRes a ok w) := by
  obtain ⟨W0, hW0⟩ : ∃ W0, W0 = w.alloc (.cells (rpvals a A n c) 26) := ⟨_, rfl⟩
  have v0 : Var W0 w.heap.size 26 (rpvals a A n c) := by rw [hW0]; exact Var.new _ _ _
  have b0 : Below w.heap.size w W0 := by rw [hW0]; exact below_new _
  have HC := Lib.hid (write_any a A n c B ok W0 (hx.below (b0.mono hB)) (Nat.le_trans hB b0.size) hfit hrows hok)
  have g0 := hG.next b0
  have HW0 := Lib.hid hW0
  clear hW0 hok hx hG hfit hrows
  simp only [rpvals] at v0 HW0 HC ⊢
  obtain ⟨d0, d1, d2, d3, d4, d5⟩ := v0.cells6
  have z0 := v0.lt
  go_enter Tryd.func8, Tryd.ntmps8
  go_upto_region 1 with fail
  rw [← HW0.out]
  go_wp2_with fail
  refine HC.out.mono ?_
  rintro e w1 ⟨b1, hcase⟩
  have g1 := g0.next b1
  have bb1 := b0.trans (b1.mono b0.size)
  clear d0 d1 d2 d3 d4 d5 z0 v0 HC HW0 g0
  rcases hcase with ⟨rfl, A9, c9, l, rfl, hl, hs, hc⟩ | ⟨rfl, lo, er, rfl, hch⟩
  · have HL := Lib.hid hl
    clear hl
    go_wp2_with fail
    refine (code_nil w1).mono ?_
    rintro e w2 ⟨rfl, b2⟩
    have hs2 := (hs.below b2).up b2.size
    have bb2 := bb1.trans (b2.mono bb1.size)
    go_wp2
    go_ret2
    exact ⟨bb2, .inl ⟨rfl, A9, c9, l, rfl, HL.out, hs2, hc⟩⟩
  · go_wp2_with fail
    refine (code_flt lo er 2 w1 g1 hch).mono ?_
    rintro e w2 ⟨rfl, b2⟩
    have bb2 := bb1.trans (b2.mono bb1.size)
    clear hch
    go_wp2
    go_ret2
    exact ⟨bb2, .inr ⟨rfl, rfl⟩⟩
set_option maxRecDepth 100000 in
set_option maxHeartbeats 1000000 in
theorem pmay_any (a : Rp) (A : Option Addr) (n c B : Nat) (ok : Bool) (w : World) (hx : RIn w B a A n c) (hB : B ≤ w.heap.size) (hfit : RpFit a) (hrows : ∀ r ∈ a.rows, RwFit r) (hok : WrOk a ok) :
    Calls Tryd.prog 11 #[.agg (rpvals a A n c)] w fun e w' => e = .returned (.bool ok) ∧ Below w.heap.size w w' := by
  obtain ⟨W0, hW0⟩ : ∃ W0, W0 = w.alloc (.cells (rpvals a A n c) 26) := ⟨_, rfl⟩
  have v0 : Var W0 w.heap.size 26 (rpvals a A n c) := by rw [hW0]; exact Var.new _ _ _
  have b0 : Below w.heap.size w W0 := by rw [hW0]; exact below_new _
  have HC := Lib.hid (write_any a A n c B ok W0 (hx.below (b0.mono hB)) (Nat.le_trans hB b0.size) hfit hrows hok)
  have HW0 := Lib.hid hW0
  clear hW0 hok hx hfit hrows
  simp only [rpvals] at v0 HW0 HC ⊢
  obtain ⟨d0, d1, d2, d3, d4, d5⟩ := v0.cells6
  have z0 := v0.lt
  go_enter Tryd.func11, Tryd.ntmps11
  go_upto_region 1 with fail
  rw [← HW0.out]
  go_wp2_with fail
  refine HC.out.mono ?_
  rintro e w1 ⟨b1, hcase⟩
  have bb1 := b0.trans (b1.mono b0.size)
  clear d0 d1 d2 d3 d4 d5 z0 v0 HC HW0
  rcases hcase with ⟨rfl, A9, c9, l, rfl, -, -, -⟩ | ⟨rfl, lo, er, rfl, hch⟩
  · go_wp2_with fail
    refine (is_nil w1).mono ?_
    rintro e w2 ⟨rfl, b2⟩
    have bb2 := bb1.trans (b2.mono bb1.size)
    go_wp2
    go_ret
    exact ⟨rfl, bb2⟩
  · go_wp2_with fail
    refine (is_any w1 lo true er (.inr ⟨rfl, hch⟩)).mono ?_
    rintro e w2 ⟨rfl, b2⟩
    have bb2 := bb1.trans (b2.mono bb1.size)
    clear hch
    go_wp2
    go_ret
    exact ⟨rfl, bb2⟩
end Go.Proofs.YtplpagnnlggfgaaDoor
