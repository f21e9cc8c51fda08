/-
  A region that draws its order, walked by hand: operations that yield their value in every world that meets a condition are taken first, one behind the other; the condition may be made stronger on the way. No conditions.
-/
import Derived.Test.YtfcifblbapadpaaGreatDoorReqG3
import Derived.Deep.RegionHeld3
namespace Go
section
variable {P : Program} {ops : Array Oper} {Q : Exit → Act → World → Prop} {md : Region.Mode} {S S' : World → Prop}

/-- A stronger condition serves. -/
theorem fld_turn (hS : ∀ w, S' w → S w) : ∀ (fuel : Nat) (listed : Array Bool) (a : Act) (w : World), wpAnyH P md ops Q S' fuel listed a w → wpAnyH P md ops Q S fuel listed a w
  | 0, _, _, _, h => h
  | fuel + 1, _, _, _, h => ⟨h.1, fun i hi => wpOp_mono (fun _ _ h' => ⟨hS _ h'.1, fld_turn hS fuel _ _ _ h'.2⟩) (h.2 i hi)⟩

/-- Those may be taken, one behind the other. -/
def fldTakesB (md : Region.Mode) (ops : Array Oper) : List Nat → Array Bool → Bool
  | [], _ => true
  | i :: r, listed => Region.free md ops listed i && (Region.ready md ops listed).contains i && fldTakesB md ops r (listed.setIfInBounds i true)
def fldListed : List Nat → Array Bool → Array Bool
  | [], l => l
  | i :: r, l => fldListed r (l.setIfInBounds i true)
/-- Each yields its value, one behind the other. -/
def FldTaken (P : Program) (ops : Array Oper) (S : World → Prop) : List Nat → (Act → Prop) → Act → Prop
  | [], K, a => K a
  | i :: r, K, a => ∃ o v, ops[i]? = some o ∧ YieldsIf P ops S o v a ∧ FldTaken P ops S r K (a.put o.dst v)

theorem fld_takes_go (hsel : Region.noSelect ops = true) (hQ : ∀ c d v (a : Act) w, Q (.panic c) (a.put d v) w → Q (.panic c) a w) :
    ∀ (is : List Nat) (n fuel : Nat) (listed : Array Bool) (a : Act) (w : World), n = is.length + fuel → fldTakesB md ops is listed = true → S w →
      FldTaken P ops S is (fun a' => wpAnyH P md ops Q S fuel (fldListed is listed) a' w) a → wpAnyH P md ops Q S n listed a w
  | [], n, fuel, listed, a, w, hn, _, _, h => by
    have : n = fuel := by simpa using hn
    subst this
    exact h
  | i :: r, n, fuel, listed, a, w, hn, hB, hS, h => by
    obtain ⟨o, v, ho, hy, hr⟩ := h
    simp only [fldTakesB, Bool.and_eq_true] at hB
    obtain ⟨m, rfl⟩ : ∃ m, n = m + 1 := ⟨r.length + fuel, by rw [hn, List.length_cons]; omega⟩
    exact wpAnyH_take ho hsel hB.1.1 hB.1.2 (fun c a w => hQ c _ _ a w) hy hS (fld_takes_go hsel hQ r m fuel _ _ w (by rw [List.length_cons] at hn; omega) hB.2 hS hr)
theorem fld_takes (is : List Nat) (n fuel : Nat) (listed : Array Bool) (a : Act) (w : World) (hsel : Region.noSelect ops = true) (hQ : ∀ c d v (a : Act) w, Q (.panic c) (a.put d v) w → Q (.panic c) a w)
    (hn : n = is.length + fuel) (hB : fldTakesB md ops is listed = true) (hS : S w) (h : FldTaken P ops S is (fun a' => wpAnyH P md ops Q S fuel (fldListed is listed) a' w) a) : wpAnyH P md ops Q S n listed a w :=
  fld_takes_go hsel hQ is n fuel listed a w hn hB hS h

theorem fld_taken_nil {K : Act → Prop} {a : Act} (h : K a) : FldTaken P ops S [] K a := h
/-- One that is wanted. -/
theorem fld_taken {K : Act → Prop} {a : Act} {i : Nat} {r : List Nat} {o : Oper} {v : Value} (ho : ops[i]? = some o) (hw : Region.wanted o (yielded ops a.tmps) = true) (hy : ∀ w, S w → (execOp a.eval o).run P w = .ok (.value v) w)
    (h : FldTaken P ops S r K (a.put o.dst v)) : FldTaken P ops S (i :: r) K a := ⟨o, v, ho, .inl ⟨hw, hy⟩, h⟩
/-- One that is not wanted. -/
theorem fld_skipped {K : Act → Prop} {a : Act} {i : Nat} {r : List Nat} {o : Oper} (ho : ops[i]? = some o) (hw : Region.wanted o (yielded ops a.tmps) = false)
    (h : FldTaken P ops S r K (a.put o.dst undef)) : FldTaken P ops S (i :: r) K a := ⟨o, undef, ho, .inr ⟨hw, rfl⟩, h⟩
/-- The only one that may come up. -/
theorem fld_alone {i fuel : Nat} {o : Oper} {listed : Array Bool} {a : Act} {w : World} (hr : Region.ready md ops listed = [i]) (ho : ops[i]? = some o) (hw : Region.wanted o (yielded ops a.tmps) = true)
    (h : ∀ K' : Act → World → Prop, Shut (∀ a w, S w → wpAnyH P md ops Q S fuel (listed.setIfInBounds i true) a w → K' a w) → Oper.wp P o a w K' Q) : wpAnyH P md ops Q S (fuel + 1) listed a w := by
  refine wpAnyH_ready hr (by simp) (AllReadyH.cons ho (fun K' hK => ?_) AllReadyH.nil)
  rw [if_pos hw]
  exact h K' (fun a w hS hW => hK.out a w hS (fun _ => hW))
end
end Go
