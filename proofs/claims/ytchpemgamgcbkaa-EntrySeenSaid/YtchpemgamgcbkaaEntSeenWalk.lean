/-
  The walk over EntrySeen: it returns true and turns nothing that was there. Conditions: what is said of the arguments.
-/
import Derived.Test.YtchpemgamgcbkaaEntWakes
import Derived.Test.YtchpemgamgcbkaaRecCut
import Derived.Test.YtchpemgamgcbkaaEntProd
import Derived.Deep.DeepCutAuto
namespace Go.Proofs.Ytchpemgamgcbkaa
open Go.RowKit

theorem scells_drop : ∀ (k : Nat) (l : List Sn), (scells l).drop (k * 3) = scells (l.drop k)
  | 0, l => by simp
  | k + 1, [] => by simp [scells]
  | k + 1, x :: l => by
    have h : scells (x :: l) = scell x ++ scells l := by simp [scells]
    rw [h, List.drop_succ_cons, ← scells_drop k l, show (k + 1) * 3 = (scell x).length + k * 3 by simp [scell]; omega, List.drop_append]
    simp
theorem sn_size3 : ∀ w, (Go.sizeOf 73).run Try.prog w = .ok 3 w := fun w => by kernel_rfl
theorem sn_from {w : World} {B : Nat} {A : Option Addr} {l : List Sn} {n k : Nat} (hn : l.length = n) (hs : Seen w B A (scells l)) (c : Nat) (hk : k ≤ n) (hc : n ≤ c) :
    ∃ D, (∀ W, (Instr.slice 28 (.slice A n c) (some (.int .i64 (k : Int))) none none).run Try.prog W = .ok (.slice D (n - k) (c - k)) W) ∧ Seen w B D (scells (l.drop k)) := by
  refine ⟨if c = k then A else A.map (·.add (k * 3)), fun W => ?_, fun hne => ?_⟩
  · have ht' : Try.prog.underlying 28 = some (.slice (Try.prog.elem 28)) := by simp [Program.elem, Try.underlying28]
    have he : Try.prog.elem 28 = 73 := by simp [Program.elem, Try.underlying28]
    rw [run_slice_l W _ _ _ _ ht' .i64 _ (by omega) (by omega), he, sn_size3]
    simp [Result.andThen, sliced]
  · have hlt : k < n := by
      rcases Nat.lt_or_ge k n with h | h
      · exact h
      · exact absurd (by rw [List.drop_of_length_le (by omega)]; rfl) hne
    obtain ⟨b, off, rfl, hb, hcell⟩ := hs (by intro e; have := congrArg List.length e; rw [scells_length] at this; simp at this; omega)
    rw [if_neg (by omega)]
    refine ⟨b, off + k * 3, by simp [plain_add], hb, fun j u hu => ?_⟩
    rw [Nat.add_assoc]
    refine hcell (k * 3 + j) u ?_
    rw [← scells_drop, List.getElem?_drop] at hu
    exact hu

set_option maxRecDepth 100000 in
set_option maxHeartbeats 2000000 in
theorem seen_walk (p : Pd) (A : Option Addr) (N c : Nat) (n next : Int) (w : World) (hp : PIn w w.heap.size p A N c) : Calls Try.prog 5 #[.agg (pvals p A N c), .int .i64 n, .int .i64 next] w fun e w' => e = .returned (.bool true) ∧ Below w.heap.size w w' := by
  obtain ⟨pid, ep, nx, sn⟩ := p
  obtain ⟨W0, hW0⟩ : ∃ W0, W0 = w.alloc (.cells #[.int .i64 pid, .int .i64 ep, .int .i64 nx, .slice A N c] 30) := ⟨_, rfl⟩
  have v0 : Var W0 w.heap.size 30 #[.int .i64 pid, .int .i64 ep, .int .i64 nx, .slice A N c] := by rw [hW0]; exact Var.new _ _ _
  have b0 : Below w.heap.size w W0 := by rw [hW0]; exact below_new _
  have HP := Lib.hid (hp.below b0)
  have hcap := hp.cap
  have hmax := hp.max
  have HN := Lib.hid hp.len
  have HW0 := Lib.hid hW0
  clear hW0 hp
  simp only [pvals]
  go_enter Try.func5, Try.ntmps5
  go_upto_region 1 with fail
  rw [← HW0.out]
  obtain ⟨d0, d1, d2, d3, -⟩ := v0.cells4
  have z0 := v0.lt
  by_cases h40 : 40 < N
  · have t1 : decide ((40 : Int) < (N : Int)) = true := by simp; omega
    go_wp2_with fail
    refine (wakes_any W0).mono ?_
    rintro e W1 ⟨rfl, hb1⟩
    have b1 := b0.trans (hb1.mono b0.size)
    go_wp2
    go_ret
    exact ⟨rfl, b1⟩
  have t1 : decide ((40 : Int) < (N : Int)) = false := bool_dec _ (by omega)
  obtain ⟨q, hq⟩ := iff_of (Pd.Good ⟨pid, ep, nx, sn⟩)
  have HQ := Lib.hid hq
  clear hq
  go_wp2_with fail
  refine (known_any ⟨pid, ep, nx, sn⟩ A N c w.heap.size q W0 HP.out b0.size HQ.out).mono ?_
  rintro e W1 ⟨rfl, hb1⟩
  have b1 := b0.trans (hb1.mono b0.size)
  have v1 := v0.below hb1 v0.lt
  have HP1 := Lib.hid (HP.out.below (hb1.mono b0.size))
  clear hb1 v0 d0 d1 d2 d3 z0 HP HW0 b0
  cases q with
  | false =>
    go_wp2_with fail
    refine (wakes_any W1).mono ?_
    rintro e W2 ⟨rfl, hb2⟩
    have b2 := b1.trans (hb2.mono b1.size)
    go_wp2
    go_ret
    exact ⟨rfl, b2⟩
  | true =>
    have hgood := HQ.out.1 (by first | rfl | trivial)
    obtain ⟨hnm, ⟨hn1, hn2⟩, hl3, hok⟩ := hgood
    simp only at hnm hn1 hn2 hl3 hok
    have HOK := Lib.hid hok
    have HNM := Lib.hid hnm
    clear hok hnm HQ
    obtain ⟨k, hk, hkN⟩ := cut_is n (N + 1) (by omega) (by omega)
    push_cast at hk
    obtain ⟨D, hcut, hsD⟩ := sn_from (k := k) HN.out HP1.out.seen c (by omega) hcap
    have HK := Lib.hid hk
    clear hk
    obtain ⟨d0, d1, d2, d3, -⟩ := v1.cells4
    have z1 := v1.lt
    have hK0 : ((N : Int) + 1 == 0) = false := by rw [beq_eq_false_iff_ne]; omega
    have hk2 := HK.out
    go_upto_region 6 with fail
    obtain ⟨x8, hx8⟩ : ∃ x, x = W1.heap.size := ⟨_, rfl⟩
    rw [← hx8]
    refine wp_at (C := fun W => Var W x8 30 #[.int .i64 pid, .int .i64 ep, .int .i64 nx, .slice A N c] ∧ Var W w.heap.size 30 #[.int .i64 pid, .int .i64 ep, .int .i64 nx, .slice A N c] ∧ Below w.heap.size w W ∧ PIn W w.heap.size ⟨pid, ep, nx, sn⟩ A N c ∧ Seen W w.heap.size D (scells (sn.drop k))) ⟨by rw [hx8]; exact Var.new _ _ _, v1.alloc _, b1.alloc b1.size _, HP1.out.below ((below_new _).mono b1.size), hsD.below ((below_new _).mono b1.size)⟩ ?_
    have hxw : w.heap.size < x8 := by rw [hx8]; exact v1.lt
    clear v1 b1 HP1 hsD d0 d1 d2 d3 z1 hx8
    rintro W2 ⟨v2, p2, b2, hp2, hs2⟩
    have HP2 := Lib.hid hp2
    clear hp2
    obtain ⟨d0, d1, d2, d3, -⟩ := p2.cells4
    have e3 := v2.cell 3 rfl
    have f2 := v2.free
    have z1 := p2.lt
    have z2 := v2.lt
    go_upto_region 8 with fail
    obtain ⟨x9, hx9⟩ : ∃ x, x = W2.heap.size := ⟨_, rfl⟩
    have v2s := v2.set 3 (.slice D (N - k) (c - k))
    simp only [List.setIfInBounds_toArray, List.set_cons_succ, List.set_cons_zero] at v2s
    have p2s := p2.other (b := x8) 3 (.slice D (N - k) (c - k)) (by omega)
    have o2 := Only.setCell x8 3 (.slice D (N - k) (c - k)) W2
    have b2s := Only.below b2 o2 (by omega)
    have hb23 : Below w.heap.size W2 (W2.setCell ⟨x8, 3, none⟩ (.slice D (N - k) (c - k))) := Only.below (Below.refl _ _) o2 (by omega)
    have hp3 := HP2.out.below hb23
    have hs3 := hs2.below hb23
    have z9 : (W2.setCell ⟨x8, 3, none⟩ (.slice D (N - k) (c - k))).heap.size = x9 := by rw [hx9, o2.size]
    refine wp_at (C := fun W => Var W x9 30 #[.int .i64 pid, .int .i64 ep, .int .i64 nx, .slice A N c] ∧ Var W x8 30 #[.int .i64 pid, .int .i64 ep, .int .i64 nx, .slice D (N - k) (c - k)] ∧ Var W w.heap.size 30 #[.int .i64 pid, .int .i64 ep, .int .i64 nx, .slice A N c] ∧ Below w.heap.size w W ∧ PIn W w.heap.size ⟨pid, ep, nx, sn⟩ A N c ∧ Seen W w.heap.size D (scells (sn.drop k))) ⟨by rw [← z9]; exact Var.new _ _ _, v2s.alloc _, p2s.alloc _, b2s.alloc b2s.size _, hp3.below ((below_new _).mono b2s.size), hs3.below ((below_new _).mono b2s.size)⟩ ?_
    have hx89 : x8 < x9 := by rw [hx9]; exact z2
    rw [← hx9]
    clear hx9 z9 hs3 hp3 hb23 b2s o2 p2s v2s f2 e3 d0 d1 d2 d3 z1 z2 v2 p2 b2 HP2 hs2
    rintro W3 ⟨v9, v8, v3, b3, hp3, hs3⟩
    have HP3 := Lib.hid hp3
    clear hp3
    obtain ⟨r, hr1, hr2, hr⟩ : ∃ r : Int, nx ≤ r ∧ r ≤ 1048576 ∧ ((next ≤ 1048576 ∧ nx < next ∧ r = next) ∨ (next ≤ 1048576 ∧ next ≤ nx ∧ r = nx) ∨ (1048576 < next ∧ nx < 1048576 ∧ r = 1048576) ∨ (1048576 < next ∧ 1048576 ≤ nx ∧ r = nx)) := by
      by_cases h1 : next ≤ 1048576
      · by_cases h2 : nx < next
        · exact ⟨next, by omega, h1, .inl ⟨h1, h2, rfl⟩⟩
        · exact ⟨nx, Int.le_refl _, hn2, .inr (.inl ⟨h1, by omega, rfl⟩)⟩
      · by_cases h2 : nx < 1048576
        · exact ⟨1048576, hn2, by omega, .inr (.inr (.inl ⟨by omega, h2, rfl⟩))⟩
        · exact ⟨nx, Int.le_refl _, hn2, .inr (.inr (.inr ⟨by omega, by omega, rfl⟩))⟩
    have HR := Lib.hid hr
    clear hr
    have d2 := v3.cell 2 rfl
    have e2 := v9.cell 2 rfl
    have f9 := v9.free
    have z3 := v3.lt
    have z9 := v9.lt
    go_cut [] (fun wx => Var wx x9 30 #[.int .i64 pid, .int .i64 ep, .int .i64 r, .slice A N c] ∧ Var wx x8 30 #[.int .i64 pid, .int .i64 ep, .int .i64 nx, .slice D (N - k) (c - k)] ∧ Var wx w.heap.size 30 #[.int .i64 pid, .int .i64 ep, .int .i64 nx, .slice A N c] ∧ Below w.heap.size w wx ∧ PIn wx w.heap.size ⟨pid, ep, nx, sn⟩ A N c ∧ Seen wx w.heap.size D (scells (sn.drop k)))
    case first =>
      have hfin : Var (W3.setCell ⟨x9, 2, none⟩ (.int .i64 r)) x9 30 #[.int .i64 pid, .int .i64 ep, .int .i64 r, .slice A N c] ∧ Var (W3.setCell ⟨x9, 2, none⟩ (.int .i64 r)) x8 30 #[.int .i64 pid, .int .i64 ep, .int .i64 nx, .slice D (N - k) (c - k)] ∧ Var (W3.setCell ⟨x9, 2, none⟩ (.int .i64 r)) w.heap.size 30 #[.int .i64 pid, .int .i64 ep, .int .i64 nx, .slice A N c] ∧ Below w.heap.size w (W3.setCell ⟨x9, 2, none⟩ (.int .i64 r)) ∧ PIn (W3.setCell ⟨x9, 2, none⟩ (.int .i64 r)) w.heap.size ⟨pid, ep, nx, sn⟩ A N c ∧ Seen (W3.setCell ⟨x9, 2, none⟩ (.int .i64 r)) w.heap.size D (scells (sn.drop k)) := by
        have o := Only.setCell x9 2 (.int .i64 r) W3
        have hb := Only.below (Below.refl w.heap.size W3) o (by omega)
        have hv := v9.set 2 (.int .i64 r)
        simp only [List.setIfInBounds_toArray, List.set_cons_succ, List.set_cons_zero] at hv
        exact ⟨hv, o.var v8 (by omega), o.var v3 (by omega), Only.below b3 o (by omega), HP3.out.below hb, hs3.below hb⟩
      rcases HR.out with ⟨h1, h2, h3⟩ | ⟨h1, h2, h3⟩ | ⟨h1, h2, h3⟩ | ⟨h1, h2, h3⟩
      all_goals
        have HF := Lib.hid hfin
        rw [h3] at HF
        have H3 := Lib.hid h3
        clear h3 HR hfin
        go_wp2_with fail
        go_meet
        rw [H3.out]
        exact HF.out
    case rest =>
      clear HR v9 v8 v3 b3 HP3 hs3 d2 e2 f9 z3 z9
      obtain ⟨v9, v8, v3, b3, hp3, hs3⟩ := hcut
      have HP3 := Lib.hid hp3
      clear hp3
      obtain ⟨x10, hx10⟩ : ∃ x, x = wc.heap.size := ⟨_, rfl⟩
      have hz9 := v9.lt
      have HX := Lib.hid hx10
      go_wp2_with (first | refine wpList_load_var rfl _ rfl Try.underlying30 rfl rfl v8 (by kernel_rfl) ?_ | (refine wpList_store_var rfl _ _ rfl rfl rfl (Var.new wc #[.int .i8 0, .int .i64 0, .int .i64 0, .int .i64 0, .bool false, .slice none 0 0, .bool false, .int .i64 0, .int .i64 0, .int .i64 0, .int .i64 0, .int .i64 0, .string ⟨#[]⟩, .string ⟨#[]⟩, .int .i64 0, .int .i64 0, .int .i64 0, .slice none 0 0] 32) rfl (by kernel_rfl) (by simp [Value.oneCell']) ?_; intro W4 v4 o4; refine wpList_at (C := fun W => Var W wc.heap.size 32 (evals (stateE ⟨pid, ep, nx, sn.drop k⟩) none 0 0 D (N - k) (c - k)) ∧ Var W x9 30 #[.int .i64 pid, .int .i64 ep, .int .i64 r, .slice A N c] ∧ Var W x8 30 #[.int .i64 pid, .int .i64 ep, .int .i64 nx, .slice D (N - k) (c - k)] ∧ Var W w.heap.size 30 #[.int .i64 pid, .int .i64 ep, .int .i64 nx, .slice A N c] ∧ Below w.heap.size w W ∧ PIn W w.heap.size ⟨pid, ep, nx, sn⟩ A N c ∧ Seen W w.heap.size D (scells (sn.drop k))) ⟨v4, o4.var (v9.alloc _) (by omega), o4.var (v8.alloc _) (by omega), o4.var (v3.alloc _) (by omega), Only.below (b3.alloc b3.size _) o4 b3.size, HP3.out.below (Only.below ((Below.refl _ _).alloc b3.size _) o4 b3.size), hs3.below (Only.below ((Below.refl _ _).alloc b3.size _) o4 b3.size)⟩ ?_; clear v4 o4 v9 v8 v3 b3 HP3 hs3; rintro W5 ⟨v4, v9, v8, v3, b3, hp3, hs3⟩; have HP3 := Lib.hid hp3; clear hp3; obtain ⟨d0, d1, d2, d3, -⟩ := v8.cells4; have z8 := v8.lt))
      rw [← hx10] at v4
      clear hx10
      have hdl : (sn.drop k).length = N - k := by rw [List.length_drop, HN.out]
      have hqg : Pd.Good ⟨pid, ep, nx, sn.drop k⟩ := ⟨HNM.out, ⟨hn1, hn2⟩, by have := HN.out; simp only; omega, HOK.out.drop k⟩
      have hrg : Pd.Good ⟨pid, ep, r, sn⟩ := ⟨HNM.out, ⟨by simp only; omega, hr2⟩, hl3, HOK.out.greater hr1⟩
      have HQG := Lib.hid hqg
      have HRG := Lib.hid hrg
      have HDL := Lib.hid hdl
      clear hqg hrg hdl
      have hpq : ∀ W, Seen W w.heap.size D (scells (sn.drop k)) → PIn W w.heap.size ⟨pid, ep, nx, sn.drop k⟩ D (N - k) (c - k) := fun W h => ⟨HDL.out, h, by omega, by omega⟩
      have HPQ := Lib.hid hpq
      clear hpq
      refine (known_any ⟨pid, ep, nx, sn.drop k⟩ D (N - k) (c - k) w.heap.size true W5 (HPQ.out _ hs3) b3.size ⟨fun _ => HQG.out, fun _ => rfl⟩).mono ?_
      rintro e W6 ⟨rfl, hb6⟩
      have a4 := v4.below hb6 v4.lt
      have a9 := v9.below hb6 v9.lt
      have a3 := v3.below hb6 v3.lt
      have b6 := b3.trans (hb6.mono b3.size)
      have HP6 := Lib.hid (HP3.out.below (hb6.mono b3.size))
      have hs6 := hs3.below (hb6.mono b3.size)
      clear v4 v9 v8 v3 b3 HP3 hs3 hb6 d0 d1 d2 d3 z8
      obtain ⟨d0, d1, d2, d3, -⟩ := a9.cells4
      have z9 := a9.lt
      rw [← HX.out]
      go_wp2_with fail
      refine (known_any ⟨pid, ep, r, sn⟩ A N c w.heap.size true W6 ⟨HP6.out.len, HP6.out.seen, HP6.out.cap, HP6.out.max⟩ b6.size ⟨fun _ => HRG.out, fun _ => rfl⟩).mono ?_
      rintro e W7 ⟨rfl, hb7⟩
      have v4 := a4.below hb7 a4.lt
      have v3 := a3.below hb7 a3.lt
      have b7 := b6.trans (hb7.mono b6.size)
      have HP7 := Lib.hid (HP6.out.below (hb7.mono b6.size))
      have hs7 := hs6.below (hb7.mono b6.size)
      clear a4 a9 a3 b6 HP6 hs6 hb7 d0 d1 d2 d3 z9
      go_wp2_with (refine wpList_load_want (by rfl) _ rfl Try.underlying32 rfl rfl v4 (by kernel_rfl) ?_)
      refine (emay_any (stateE ⟨pid, ep, nx, sn.drop k⟩) none D 0 0 (N - k) (c - k) w.heap.size true W7 ⟨rfl, Seen.nil _ _ _, Nat.le_refl _, by omega, (by intro y hy; simp [stateE, noBt] at hy), ⟨by simp [stateE, noRw, ByteArray.size], by simp [stateE, noRw, ByteArray.size]⟩, HPQ.out _ hs7⟩ b7.size ⟨fun _ => .state _ HQG.out, fun _ => rfl⟩).mono ?_
      rintro e W8 ⟨rfl, hb8⟩
      have a3 := v3.below hb8 v3.lt
      have b8 := b7.trans (hb8.mono b7.size)
      have HP8 := Lib.hid (HP7.out.below (hb8.mono b7.size))
      clear v4 v3 b7 HP7 hs7 hb8
      obtain ⟨d0, d1, d2, d3, -⟩ := a3.cells4
      have z3 := a3.lt
      go_wp2_with fail
      refine (sprod_any ⟨pid, ep, nx, sn⟩ ⟨pid, ep, nx, sn⟩ A A N N c c w.heap.size true W8 HP8.out HP8.out b8.size ⟨fun _ => rfl, fun _ => rfl⟩).mono ?_
      rintro e W9 ⟨rfl, hb9⟩
      have b9 := b8.trans (hb9.mono b8.size)
      clear a3 b8 HP8 hb9 d0 d1 d2 d3 z3
      go_wp2_with fail
      refine (wakes_any W9).mono ?_
      rintro e W10 ⟨rfl, hb10⟩
      have b10 := b9.trans (hb10.mono b9.size)
      clear hb10 b9
      go_wp2
      go_ret
      exact ⟨rfl, b10⟩
end Go.Proofs.Ytchpemgamgcbkaa
