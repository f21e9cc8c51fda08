/-
  Proved: for every input rovinglaw03.DiskTells returns true, and each argument reads behind the call as it read before, where errors.errorType holds what the program's text lays (tied to the text by the card). The card ties it to a pruned copy of the project.
-/
import Derived.Test.YtbglpmjfajmkdaaDoorDskTells
import Derived.Test.YtbglpmjfajmkdaaDoorDskLaid
import Derived.Test.YtbglpmjfajmkdaaDoorTie
import Derived.Test.YtbglpmjfajmkdaaDoorCards
import Derived.WalkKit
import Derived.ProofKit
import Derived.OpenShut
import Derived.ShutString
import Derived.ChangeOld
import Derived.Below
import Derived.SizedLaws
import Derived.SevenTiedAt
namespace Go.Proofs.YtbglpmjfajmkdaaDoor.diskTells
open Go.ChangeShapes Go.WideShapes Go.ChangeAt Go.RowKit
open Go.ChangeMaps (open_string shut_string)
set_option maxRecDepth 100000 in
theorem lifted (os : Os) (started : os.Started) (H : Type) (enc : TypeId × Value → H) :
    ReturnsInHanded {} Tryd.checked os 3 .any (fun w args => (Rows.diskTellsSpec.pre enc Tryd.prog Tryd.f3 Rows.diskTellsRow.domain false w args ∧ laidMetH Tryd.prog Rows.diskTellsRow.laid w) ∧ sizedMet enc Tryd.prog Tryd.f3 (OpenSpec.ofChange Rows.diskTellsSpec) false w args)
      (Rows.diskTellsSpec.post enc Tryd.prog Tryd.f3 false true false false) := by
  refine returnsInHanded_of_change_and (C := Tryd.checked) (X := fun w _ => laidMetH Tryd.prog Rows.diskTellsRow.laid w) (fun _ _ _ hh h => h.of_heap hh) Laid.own started (by kernel_rfl) Tryd.func3
    (ChangeSpec.witness_at (enc := enc) (C := Tryd.checked) (os := os) (X := fun w _ => laidMetH Tryd.prog Rows.diskTellsRow.laid w) false (Laid.laidWorld os) #[.agg #[.slice none 0 0, .int .i64 0, .int .i64 0, .bool false], .agg #[.slice none 0 0, .int .i64 0, .int .i64 0, .bool false], .agg #[.int .i8 0, .string ByteArray.empty, .string ByteArray.empty, .int .i64 0], .int .i64 0, .slice none 0 0, .string ByteArray.empty] 8 rfl (by kernel_rfl) (by kernel_rfl) (by kernel_rfl) (by kernel_rfl) (by kernel_rfl) (Laid.laidWorld_met os _)) ?_
  intro W base args ds gs before hval0 hW _ _ hL _
  have hval : ∀ (j : Nat) t v, Tryd.f3.params[j]? = some t → args[j]? = some v → Value.okWide Tryd.prog W .any base t v := hval0
  have hW' := hW
  obtain ⟨p, q, hA0, hV, rfl, _, _⟩ := hW
  have hA : DataW.TrodAll enc Tryd.prog W 0 (fun _ => true) true Tryd.f3.params.toList args.toList ds p := hA0
  rw [Tryd.params3] at hA hval
  have g : Glob W := Laid.glob_of_laid hL
  obtain ⟨v0, vs0, d0, ds0, p0, q0, hargs, rfl, rfl, h0, t0⟩ := trodAll_cons hA
  obtain ⟨v1, vs1, d1, ds1, p1, q1, rfl, rfl, rfl, h1, t1⟩ := trodAll_cons t0
  obtain ⟨v2, vs2, d2, ds2, p2, q2, rfl, rfl, rfl, h2, t2⟩ := trodAll_cons t1
  obtain ⟨v3, vs3, d3, ds3, p3, q3, rfl, rfl, rfl, h3, t3⟩ := trodAll_cons t2
  obtain ⟨v4, vs4, d4, ds4, p4, q4, rfl, rfl, rfl, h4, t4⟩ := trodAll_cons t3
  obtain ⟨v5, vs5, d5, ds5, p5, q5, rfl, rfl, rfl, h5, t5⟩ := trodAll_cons t4
  obtain ⟨rfl, rfl, rfl⟩ := trodAll_nil t5
  obtain rfl : args = #[v0, v1, v2, v3, v4, v5] := by cases args; simp_all
  obtain ⟨rfl, rfl⟩ := trodVars_none hV
  have k0 := h0
  have lt0 : ∀ x ∈ p0, x.block < W.heap.size := by obtain ⟨m, hm⟩ := k0; exact DataW.trod_lt m _ _ _ hm
  obtain ⟨A_0, n_0, c_0, fs_0, cap_0, left_0, down_0, rfl, hl_0, hc_0, hs_0, hm_0, hz_0, hw_0, hx_0⟩ := disk_in (hval 0 24 v0 rfl rfl) h0
  have k1 := h1
  have lt1 : ∀ x ∈ p1, x.block < W.heap.size := by obtain ⟨m, hm⟩ := k1; exact DataW.trod_lt m _ _ _ hm
  obtain ⟨A_1, n_1, c_1, fs_1, cap_1, left_1, down_1, rfl, hl_1, hc_1, hs_1, hm_1, hz_1, hw_1, hx_1⟩ := disk_in (hval 1 24 v1 rfl rfl) h1
  have k2 := h2
  have lt2 : ∀ x ∈ p2, x.block < W.heap.size := by obtain ⟨m, hm⟩ := k2; exact DataW.trod_lt m _ _ _ hm
  obtain ⟨op_2, file_2, b_2, k_2, rfl, hb_2, hf_2⟩ := write_in (hval 2 27 v2 rfl rfl) h2
  obtain ⟨a3, rfl, rfl, rfl, w3⟩ := open_int Tryd.underlying3 (hval 3 3 v3 rfl rfl) h3
  obtain ⟨a4, len4, cap4, rfl⟩ := okWide_slice Tryd.underlying28 (hval 4 28 v4 rfl rfl)
  have k4 := h4
  have lt4 : ∀ x ∈ p4, x.block < W.heap.size := by obtain ⟨m, hm⟩ := k4; exact DataW.trod_lt m _ _ _ hm
  obtain ⟨fuel4, hf4⟩ := h4
  have hg4 : DataW.trod enc Tryd.prog W 0 (fun _ => true) true fuel4 28 [.slice a4 len4 cap4] = some (d4, p4) := by simpa [Value.cells] using hf4
  obtain ⟨l_4, wl_4, ws_4, wm_4, wz_4⟩ := numbers_in hg4
  obtain ⟨a5, rfl, rfl, rfl, w5⟩ := open_string Tryd.underlying9 (hval 5 9 v5 rfl rfl) h5
  clear hA0 hval0
  refine (Go.Proofs.YtbglpmjfajmkdaaDoor.tells_walk A_0 n_0 c_0 fs_0 cap_0 left_0 down_0 A_1 n_1 c_1 fs_1 cap_1 left_1 down_1 op_2 file_2 b_2 k_2 a3 a4 len4 cap4 l_4 a5 W hl_0 hc_0 hs_0 hm_0 hz_0 hx_0 hl_1 hs_1 hm_1 hz_1 ⟨hb_2, hf_2⟩ wl_4 (Nat.le_trans wm_4 (by decide)) ws_4 wz_4 (Nat.le_trans w5 (by decide)) g).mono fun e W' ⟨he, bel⟩ => ?_
  subst he
  exact ⟨_, rfl, _, _, _, [], _, [], hW', trodAll_mk1 (shut_bool Tryd.underlying4 _), (trodAll_cons_mk (Below.trod Laid.laidOut (by kernel_rfl) (of_decide_eq_true (by kernel_rfl)) k0 bel lt0) (trodAll_cons_mk (Below.trod Laid.laidOut (by kernel_rfl) (of_decide_eq_true (by kernel_rfl)) k1 bel lt1) (trodAll_cons_mk (Below.trod Laid.laidOut (by kernel_rfl) (of_decide_eq_true (by kernel_rfl)) k2 bel lt2) (trodAll_cons_mk (shut_int Tryd.underlying3 w3) (trodAll_cons_mk (Below.trod Laid.laidOut (by kernel_rfl) (of_decide_eq_true (by kernel_rfl)) k4 bel lt4) (trodAll_cons_mk (shut_string Tryd.underlying9 w5) trodAll_mk0)))))), rfl, bel.frame _, fun h => by cases h⟩

theorem over : Rows.diskTellsRow.holds Tryd.pinned (OpenSpec.ofChange Rows.diskTellsSpec) :=
  OpenClaim.holds_of_wide 3 Tryd.f3 rfl rfl rfl rfl rfl rfl rfl ⟨rfl, rfl, rfl, rfl, rfl⟩ rfl rfl rfl rfl rfl (by kernel_rfl) Tryd.func3 (by kernel_rfl)
    (of_decide_eq_true (by kernel_rfl)) (by unfold Func.isWrapper; first | (rw [if_pos (by decide +kernel)]; kernel_rfl) | (rw [if_neg (by decide +kernel)]; exact ⟨rfl, rfl⟩))
    (fun os started H enc _ => lifted os started H enc)
theorem ties (f : FuncId) (fn : Func) (hf : Tryd.prog.funcNamed "roving/rovinglaw03.DiskTells" = some f) (hfn : Tryd.prog.funcs[f]? = some fn) : fn = Tryd.f3 := by
  obtain rfl : f = 3 := (Option.some.inj ((show Tryd.prog.funcNamed "roving/rovinglaw03.DiskTells" = some 3 by kernel_rfl).symm.trans hf)).symm
  exact (Option.some.inj (Tryd.func3.symm.trans hfn)).symm
theorem plain (j : Nat) (t : TypeId) (ht : Tryd.f3.params[j]? = some t) : Tryd.prog.wantsStandIn t = false := by
  rw [Tryd.params3] at ht
  have hm : t ∈ ([24, 24, 27, 3, 28, 9] : List TypeId) := by
    have h := Array.mem_of_getElem? ht
    simpa using h
  have ha : ([24, 24, 27, 3, 28, 9] : List TypeId).all (fun t => !Tryd.prog.wantsStandIn t) = true := by kernel_rfl
  have h1 := List.all_eq_true.1 ha t hm
  cases hw : Tryd.prog.wantsStandIn t with
  | false => rfl
  | true => rw [hw] at h1; cases h1

/-- The statement. -/
theorem proved : Rows.DiskTellsCardSaid :=
  Claim7.holds_tied_plain_at .later [] [.handle] true (true, "2f02fb637e02130ab5628bee72c6b1a12ae8e41590826e6255a333f4187223b0") true
    over (fun _ h => by cases h) (by kernel_rfl) (fun _ h => by cases h) diskTells_row_tie rfl ⟨rfl, rfl⟩ (by kernel_rfl) rfl
    (fun f fn hf hfn => by
      obtain rfl := ties f fn hf hfn
      exact ⟨by kernel_rfl, fun j t ht => plain j t ht⟩)
    (by kernel_rfl)
end Go.Proofs.YtbglpmjfajmkdaaDoor.diskTells
