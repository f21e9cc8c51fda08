/-
  Proved: for every input rovinglaw05.FileDoes returns true, and each argument reads behind the call as it read before, where errors.errorType holds what the program's text lays (tied to the text by the card). The card ties it to a pruned copy of the project.
-/
import Derived.Test.YtpppeadmhfggkaaGreatDoorFilDoesWalk
import Derived.Test.YtpppeadmhfggkaaGreatDoorFilLaid
import Derived.Test.YtpppeadmhfggkaaGreatDoorTie
import Derived.Test.YtpppeadmhfggkaaGreatDoorCards
import Derived.WalkKit
import Derived.ProofKit
import Derived.OpenShut
import Derived.ShutString
import Derived.ChangeOld
import Derived.Below
import Derived.SizedLaws
import Derived.SevenTiedAt
namespace Go.Proofs.YtpppeadmhfggkaaGreatDoor.fileDoes
open Go.ChangeShapes Go.WideShapes Go.ChangeAt Go.RowKit
open Go.ChangeMaps (open_string shut_string)
set_option maxRecDepth 100000 in
theorem lifted (os : Os) (started : os.Started) (H : Type) (enc : TypeId × Value → H) :
    ReturnsInHanded {} Tryz.checked os 3 .any (fun w args => (Rows.fileDoesSpec.pre enc Tryz.prog Tryz.f3 Rows.fileDoesRow.domain false w args ∧ laidMetH Tryz.prog Rows.fileDoesRow.laid w) ∧ sizedMet enc Tryz.prog Tryz.f3 (OpenSpec.ofChange Rows.fileDoesSpec) false w args)
      (Rows.fileDoesSpec.post enc Tryz.prog Tryz.f3 false true false false) := by
  refine returnsInHanded_of_change_and (C := Tryz.checked) (X := fun w _ => laidMetH Tryz.prog Rows.fileDoesRow.laid w) (fun _ _ _ hh h => h.of_heap hh) Laid.own started (by kernel_rfl) Tryz.func3
    (ChangeSpec.witness_at (enc := enc) (C := Tryz.checked) (os := os) (X := fun w _ => laidMetH Tryz.prog Rows.fileDoesRow.laid w) false (Laid.laidWorld os) #[.agg #[.slice none 0 0, .int .i64 0, .int .i64 0, .bool false], .slice none 0 0] 8 rfl (by kernel_rfl) (by kernel_rfl) (by kernel_rfl) (by kernel_rfl) (by kernel_rfl) (Laid.laidWorld_met os _)) ?_
  intro W base args ds gs before hval0 hW _ _ hL _
  have hval : ∀ (j : Nat) t v, Tryz.f3.params[j]? = some t → args[j]? = some v → Value.okWide Tryz.prog W .any base t v := hval0
  have hW' := hW
  obtain ⟨p, q, hA0, hV, rfl, _, _⟩ := hW
  have hA : DataW.TrodAll enc Tryz.prog W 0 (fun _ => true) true Tryz.f3.params.toList args.toList ds p := hA0
  rw [Tryz.params3] at hA hval
  have g : Glob W := Laid.glob_of_laid hL
  obtain ⟨v0, vs0, d0, ds0, p0, q0, hargs, rfl, rfl, h0, t0⟩ := trodAll_cons hA
  obtain ⟨v1, vs1, d1, ds1, p1, q1, rfl, rfl, rfl, h1, t1⟩ := trodAll_cons t0
  obtain ⟨rfl, rfl, rfl⟩ := trodAll_nil t1
  obtain rfl : args = #[v0, v1] := by cases args; simp_all
  obtain ⟨rfl, rfl⟩ := trodVars_none hV
  have k0 := h0
  have lt0 : ∀ x ∈ p0, x.block < W.heap.size := by obtain ⟨m, hm⟩ := k0; exact DataW.trod_lt m _ _ _ hm
  obtain ⟨A_0, n_0, c_0, fs_0, cap_0, left_0, down_0, rfl, hl_0, hc_0, hs_0, hm_0, hz_0, hw_0, hx_0⟩ := disk_in (hval 0 24 v0 rfl rfl) h0
  obtain ⟨a1, len1, cap1, rfl⟩ := okWide_slice Tryz.underlying25 (hval 1 25 v1 rfl rfl)
  have k1 := h1
  have lt1 : ∀ x ∈ p1, x.block < W.heap.size := by obtain ⟨m, hm⟩ := k1; exact DataW.trod_lt m _ _ _ hm
  obtain ⟨fuel1, hf1⟩ := h1
  have hg1 : DataW.trod enc Tryz.prog W 0 (fun _ => true) true fuel1 25 [.slice a1 len1 cap1] = some (d1, p1) := by simpa [Value.cells] using hf1
  obtain ⟨l_1, wl_1, ws_1, wm_1, wz_1⟩ := writes_in hg1
  clear hA0 hval0
  refine (Go.Proofs.YtpppeadmhfggkaaGreatDoor.does_law A_0 a1 n_0 c_0 len1 cap1 fs_0 cap_0 left_0 down_0 l_1 W hl_0 hc_0 hs_0 hm_0 hz_0 hx_0 wl_1 ws_1 (Nat.le_trans wm_1 (by decide)) (fun y hy => ⟨Nat.le_trans (wz_1 y hy).1 (by decide), Nat.le_trans (wz_1 y hy).2 (by decide)⟩) g).mono fun e W' ⟨he, bel⟩ => ?_
  subst he
  exact ⟨_, rfl, _, _, _, [], _, [], hW', trodAll_mk1 (shut_bool Tryz.underlying4 _), (trodAll_cons_mk (Below.trod Laid.laidOut (by kernel_rfl) (of_decide_eq_true (by kernel_rfl)) k0 bel lt0) (trodAll_cons_mk (Below.trod Laid.laidOut (by kernel_rfl) (of_decide_eq_true (by kernel_rfl)) k1 bel lt1) trodAll_mk0)), rfl, bel.frame _, fun h => by cases h⟩

theorem over : Rows.fileDoesRow.holds Tryz.pinned (OpenSpec.ofChange Rows.fileDoesSpec) :=
  OpenClaim.holds_of_wide 3 Tryz.f3 rfl rfl rfl rfl rfl rfl rfl ⟨rfl, rfl, rfl, rfl, rfl⟩ rfl rfl rfl rfl rfl (by kernel_rfl) Tryz.func3 (by kernel_rfl)
    (of_decide_eq_true (by kernel_rfl)) (by unfold Func.isWrapper; first | (rw [if_pos (by decide +kernel)]; kernel_rfl) | (rw [if_neg (by decide +kernel)]; exact ⟨rfl, rfl⟩))
    (fun os started H enc _ => lifted os started H enc)
theorem ties (f : FuncId) (fn : Func) (hf : Tryz.prog.funcNamed "roving/rovinglaw05.FileDoes" = some f) (hfn : Tryz.prog.funcs[f]? = some fn) : fn = Tryz.f3 := by
  obtain rfl : f = 3 := (Option.some.inj ((show Tryz.prog.funcNamed "roving/rovinglaw05.FileDoes" = some 3 by kernel_rfl).symm.trans hf)).symm
  exact (Option.some.inj (Tryz.func3.symm.trans hfn)).symm
theorem plain (j : Nat) (t : TypeId) (ht : Tryz.f3.params[j]? = some t) : Tryz.prog.wantsStandIn t = false := by
  rw [Tryz.params3] at ht
  have hm : t ∈ ([24, 25] : List TypeId) := by
    have h := Array.mem_of_getElem? ht
    simpa using h
  have ha : ([24, 25] : List TypeId).all (fun t => !Tryz.prog.wantsStandIn t) = true := by kernel_rfl
  have h1 := List.all_eq_true.1 ha t hm
  cases hw : Tryz.prog.wantsStandIn t with
  | false => rfl
  | true => rw [hw] at h1; cases h1

/-- The statement. -/
theorem proved : Rows.FileDoesCardSaid :=
  Claim7.holds_tied_plain_at .later [] [.data, .data, .data, .handle] true (true, "18682f03d34e1aa5d67789115478b69aa986ad77ebe63ab76f1f8652ca7abb98") true
    over (fun _ h => by cases h) (by kernel_rfl) (fun _ h => by cases h) fileDoes_row_tie rfl ⟨rfl, rfl⟩ (by kernel_rfl) rfl
    (fun f fn hf hfn => by
      obtain rfl := ties f fn hf hfn
      exact ⟨by kernel_rfl, fun j t ht => plain j t ht⟩)
    (by kernel_rfl)
end Go.Proofs.YtpppeadmhfggkaaGreatDoor.fileDoes
