/-
  Proved: for every input rovinglaw05.FilePuts returns true, and each argument reads behind the call as it read before, where errors.errorType holds what the program's text lays (tied to the text by the card). The card ties it to a pruned copy of the project.
-/
import Derived.Test.YtpppeadmhfggkaaGreatDoorFilPutsWalk
import Derived.Test.YtpppeadmhfggkaaGreatDoorFilLaid
import Derived.Test.YtpppeadmhfggkaaGreatDoorTie
import Derived.Test.YtpppeadmhfggkaaGreatDoorCards
import Derived.WalkKit
import Derived.ProofKit
import Derived.OpenShut
import Derived.ShutString
import Derived.ChangeOld
import Derived.Below
import Derived.SizedLaws
import Derived.SevenTiedAt
namespace Go.Proofs.YtpppeadmhfggkaaGreatDoor.filePuts
open Go.ChangeShapes Go.WideShapes Go.ChangeAt Go.RowKit
open Go.ChangeMaps (open_string shut_string)
set_option maxRecDepth 100000 in
theorem lifted (os : Os) (started : os.Started) (H : Type) (enc : TypeId × Value → H) :
    ReturnsInHanded {} Tryz.checked os 4 .any (fun w args => (Rows.filePutsSpec.pre enc Tryz.prog Tryz.f4 Rows.filePutsRow.domain false w args ∧ laidMetH Tryz.prog Rows.filePutsRow.laid w) ∧ sizedMet enc Tryz.prog Tryz.f4 (OpenSpec.ofChange Rows.filePutsSpec) false w args)
      (Rows.filePutsSpec.post enc Tryz.prog Tryz.f4 false true false false) := by
  refine returnsInHanded_of_change_and (C := Tryz.checked) (X := fun w _ => laidMetH Tryz.prog Rows.filePutsRow.laid w) (fun _ _ _ hh h => h.of_heap hh) Laid.own started (by kernel_rfl) Tryz.func4
    (ChangeSpec.witness_at (enc := enc) (C := Tryz.checked) (os := os) (X := fun w _ => laidMetH Tryz.prog Rows.filePutsRow.laid w) false (Laid.laidWorld os) #[.agg #[.slice none 0 0, .int .i64 0, .int .i64 0, .bool false], .string ByteArray.empty, .slice none 0 0] 8 rfl (by kernel_rfl) (by kernel_rfl) (by kernel_rfl) (by kernel_rfl) (by kernel_rfl) (Laid.laidWorld_met os _)) ?_
  intro W base args ds gs before hval0 hW _ _ hL _
  have hval : ∀ (j : Nat) t v, Tryz.f4.params[j]? = some t → args[j]? = some v → Value.okWide Tryz.prog W .any base t v := hval0
  have hW' := hW
  obtain ⟨p, q, hA0, hV, rfl, _, _⟩ := hW
  have hA : DataW.TrodAll enc Tryz.prog W 0 (fun _ => true) true Tryz.f4.params.toList args.toList ds p := hA0
  rw [Tryz.params4] at hA hval
  have g : Glob W := Laid.glob_of_laid hL
  obtain ⟨v0, vs0, d0, ds0, p0, q0, hargs, rfl, rfl, h0, t0⟩ := trodAll_cons hA
  obtain ⟨v1, vs1, d1, ds1, p1, q1, rfl, rfl, rfl, h1, t1⟩ := trodAll_cons t0
  obtain ⟨v2, vs2, d2, ds2, p2, q2, rfl, rfl, rfl, h2, t2⟩ := trodAll_cons t1
  obtain ⟨rfl, rfl, rfl⟩ := trodAll_nil t2
  obtain rfl : args = #[v0, v1, v2] := by cases args; simp_all
  obtain ⟨rfl, rfl⟩ := trodVars_none hV
  have k0 := h0
  have lt0 : ∀ x ∈ p0, x.block < W.heap.size := by obtain ⟨m, hm⟩ := k0; exact DataW.trod_lt m _ _ _ hm
  obtain ⟨A_0, n_0, c_0, fs_0, cap_0, left_0, down_0, rfl, hl_0, hc_0, hs_0, hm_0, hz_0, hw_0, hx_0⟩ := disk_in (hval 0 24 v0 rfl rfl) h0
  obtain ⟨a1, rfl, rfl, rfl, w1⟩ := open_string Tryz.underlying9 (hval 1 9 v1 rfl rfl) h1
  obtain ⟨a2, len2, cap2, rfl⟩ := okWide_slice Tryz.underlying40 (hval 2 40 v2 rfl rfl)
  have k2 := h2
  have lt2 : ∀ x ∈ p2, x.block < W.heap.size := by obtain ⟨m, hm⟩ := k2; exact DataW.trod_lt m _ _ _ hm
  obtain ⟨fuel2, hf2⟩ := h2
  have hg2 : DataW.trod enc Tryz.prog W 0 (fun _ => true) true fuel2 40 [.slice a2 len2 cap2] = some (d2, p2) := by simpa [Value.cells] using hf2
  have w2 := strs_in hg2
  clear hA0 hval0
  refine (Go.Proofs.YtpppeadmhfggkaaGreatDoor.puts_all A_0 a2 n_0 c_0 len2 cap2 fs_0 cap_0 left_0 down_0 a1 W hl_0 hc_0 hs_0 hm_0 hz_0 hx_0 (Nat.le_trans w1 (by decide)) w2 g).mono fun e W' ⟨he, bel⟩ => ?_
  subst he
  exact ⟨_, rfl, _, _, _, [], _, [], hW', trodAll_mk1 (shut_bool Tryz.underlying4 _), (trodAll_cons_mk (Below.trod Laid.laidOut (by kernel_rfl) (of_decide_eq_true (by kernel_rfl)) k0 bel lt0) (trodAll_cons_mk (shut_string Tryz.underlying9 w1) (trodAll_cons_mk (Below.trod Laid.laidOut (by kernel_rfl) (of_decide_eq_true (by kernel_rfl)) k2 bel lt2) trodAll_mk0))), rfl, bel.frame _, fun h => by cases h⟩

theorem over : Rows.filePutsRow.holds Tryz.pinned (OpenSpec.ofChange Rows.filePutsSpec) :=
  OpenClaim.holds_of_wide 4 Tryz.f4 rfl rfl rfl rfl rfl rfl rfl ⟨rfl, rfl, rfl, rfl, rfl⟩ rfl rfl rfl rfl rfl (by kernel_rfl) Tryz.func4 (by kernel_rfl)
    (of_decide_eq_true (by kernel_rfl)) (by unfold Func.isWrapper; first | (rw [if_pos (by decide +kernel)]; kernel_rfl) | (rw [if_neg (by decide +kernel)]; exact ⟨rfl, rfl⟩))
    (fun os started H enc _ => lifted os started H enc)
theorem ties (f : FuncId) (fn : Func) (hf : Tryz.prog.funcNamed "roving/rovinglaw05.FilePuts" = some f) (hfn : Tryz.prog.funcs[f]? = some fn) : fn = Tryz.f4 := by
  obtain rfl : f = 4 := (Option.some.inj ((show Tryz.prog.funcNamed "roving/rovinglaw05.FilePuts" = some 4 by kernel_rfl).symm.trans hf)).symm
  exact (Option.some.inj (Tryz.func4.symm.trans hfn)).symm
theorem plain (j : Nat) (t : TypeId) (ht : Tryz.f4.params[j]? = some t) : Tryz.prog.wantsStandIn t = false := by
  rw [Tryz.params4] at ht
  have hm : t ∈ ([24, 9, 40] : List TypeId) := by
    have h := Array.mem_of_getElem? ht
    simpa using h
  have ha : ([24, 9, 40] : List TypeId).all (fun t => !Tryz.prog.wantsStandIn t) = true := by kernel_rfl
  have h1 := List.all_eq_true.1 ha t hm
  cases hw : Tryz.prog.wantsStandIn t with
  | false => rfl
  | true => rw [hw] at h1; cases h1

/-- The statement. -/
theorem proved : Rows.FilePutsCardSaid :=
  Claim7.holds_tied_plain_at .later [] [.data, .data, .data, .handle] true (true, "18682f03d34e1aa5d67789115478b69aa986ad77ebe63ab76f1f8652ca7abb98") true
    over (fun _ h => by cases h) (by kernel_rfl) (fun _ h => by cases h) filePuts_row_tie rfl ⟨rfl, rfl⟩ (by kernel_rfl) rfl
    (fun f fn hf hfn => by
      obtain rfl := ties f fn hf hfn
      exact ⟨by kernel_rfl, fun j t ht => plain j t ht⟩)
    (by kernel_rfl)
end Go.Proofs.YtpppeadmhfggkaaGreatDoor.filePuts
