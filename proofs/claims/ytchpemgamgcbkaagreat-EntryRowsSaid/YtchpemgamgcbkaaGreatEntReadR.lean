/-
  The contract of the document's Read: what it returns and what it does to memory. Conditions: those that each theorem names.
-/
import Derived.Test.YtchpemgamgcbkaaGreatEntRead
import Derived.Test.YtchpemgamgcbkaaGreatEntMayR
import Derived.Test.YtchpemgamgcbkaaGreatRecTakeR
namespace Go.Proofs.YtchpemgamgcbkaaGreat
open Go.RowKit

/-- Under way: the reader in block g, the entry's variable in block q, the result's variable. -/
structure T1 (w wr : World) (g q : Nat) (s : ByteArray) (p : Nat) (bad : Bool) (cs : Array Value) : Prop where
  rd : Rd 110 wr g s p bad
  ve : Var wr q 32 cs
  vr : Var wr w.heap.size 32 zeroE
  below : Below w.heap.size w wr
  hg : w.heap.size < g ∧ g < q
section
variable {w wr w' : World} {g q : Nat} {s : ByteArray} {p p' : Nat} {bad bad' : Bool} {cs : Array Value}
theorem T1.read (h : T1 w wr g q s p bad cs) (hr : Rd 110 w' g s p' bad') (hk : Kept [g] wr w') : T1 w w' g q s p' bad' cs := by
  have h1 := h.hg
  exact ⟨hr, h.ve.kept hk (by simp; omega), h.vr.kept hk (by simp; omega), h.below.trans (hk.below h.below.size (by simp; omega)), h.hg⟩
theorem T1.next (h : T1 w wr g q s p bad cs) (hb : Below wr.heap.size wr w') : T1 w w' g q s p bad cs :=
  ⟨Var.below h.rd hb (Var.lt h.rd), h.ve.below hb h.ve.lt, h.vr.below hb h.vr.lt, h.below.trans (hb.mono h.below.size), h.hg⟩
theorem T1.set (h : T1 w wr g q s p bad cs) (i : Nat) (v : Value) : T1 w (wr.setCell ⟨q, i, none⟩ v) g q s p bad (cs.setIfInBounds i v) := by
  have h1 := h.hg
  have ho := Only.setCell q i v wr
  exact ⟨ho.var h.rd (by omega), h.ve.set i v, ho.var h.vr (by omega), Only.below h.below ho (by omega), h.hg⟩
theorem T1.low (h : T1 w wr g q s p bad cs) (hb : Below (q + 1) wr w') (_hq : q + 1 ≤ wr.heap.size) : T1 w w' g q s p bad cs := by
  have h1 := h.hg
  exact ⟨Var.below h.rd hb (by omega), h.ve.below hb (by omega), h.vr.below hb (by omega), h.below.trans (hb.mono (by omega)), h.hg⟩
theorem T1.first (hr : Rd 110 wr g s p bad) (hv : Var wr w.heap.size 32 zeroE) (hb : Below w.heap.size w wr) (hg : w.heap.size < g) (hq : q = wr.heap.size) (hgq : g < wr.heap.size) (v9 : Var w' q 32 cs) (cs0 : Array Value)
    (o9 : Only q (wr.alloc (.cells cs0 32)) w') : T1 w w' g q s p bad cs :=
  ⟨o9.var (Var.alloc hr _) (by omega), v9, o9.var (hv.alloc _) (by omega), Only.below (hb.alloc hb.size _) o9 (by omega), hg, by omega⟩
end
theorem EOwn.set {base q i : Nat} {v : Value} {w : World} {x : En} {A D : Option Addr} {n c m d : Nat} {cs : Array Value} (h : EOwn base w x A n c D m d) (hv : Var w q 32 cs) : EOwn base (w.setCell ⟨q, i, none⟩ v) x A n c D m d := h.low hv (Only.setCell _ _ _ _)

set_option maxRecDepth 100000 in
set_option maxHeartbeats 2000000 in
theorem rread_data (s : ByteArray) (x : En) (er : Int) (p0 p : Nat) (b0 bad : Bool) (b : Bt) (w : World) (hx : s.size ≤ 1000000) (h0 : NumIs s 0 false 0 127 0 p0 b0) (h1 : TakeIs s p0 b0 b p bad) (hT : Told s x er (dataE b) p bad) :
    Calls Tryz.prog 19 #[.string s] w (EReadOwn w x er) := by
  have q0 : p0 ≤ s.size := h0.le (Nat.zero_le _)
  obtain ⟨hl4, hgd⟩ := h1.small
  have H1 := Lib.hid h1
  clear h1
  have H0 := Lib.hid h0
  have HT := Lib.hid hT
  clear h0 hT
  obtain ⟨W0, hW0⟩ : ∃ W0, W0 = w.alloc (.cells #[.int .i8 0, .int .i64 0, .int .i64 0, .int .i64 0, .bool false, .slice none 0 0, .bool false, .int .i64 0, .int .i64 0, .int .i64 0, .int .i64 0, .int .i64 0, .string ⟨#[]⟩, .string ⟨#[]⟩, .int .i64 0, .int .i64 0, .int .i64 0, .slice none 0 0] 32) := ⟨_, rfl⟩
  have v0 : Var W0 w.heap.size 32 zeroE := by rw [hW0]; exact Var.new _ _ _
  have b0' : Below w.heap.size w W0 := by rw [hW0]; exact below_new _
  have HW0 := Lib.hid hW0
  clear hW0
  go_enter Tryz.func19, Tryz.ntmps19
  go_upto_region 1 with fail
  rw [← HW0.out]
  go_wp2_with fail
  refine (ref_new s W0).mono ?_
  rintro e W1 ⟨rfl, hr1, h1⟩
  obtain ⟨g, hgg⟩ : ∃ g, g = W0.heap.size := ⟨_, rfl⟩
  have hgw : w.heap.size < g := by rw [hgg]; exact v0.lt
  have v1 := v0.below h1 v0.lt
  have bb1 := b0'.trans (h1.mono b0'.size)
  rw [← hgg] at hr1 ⊢
  clear hgg v0 b0' h1 HW0
  go_wp2_with fail
  refine (ref_number_all g s 0 W1 false 0 127 0 p0 b0 H0.out hr1 hx (Nat.zero_le _)).mono ?_
  rintro e W2 ⟨rfl, hr2, k2⟩
  have v2 := v1.kept k2 (by simp; omega)
  have bb2 := bb1.trans (k2.below bb1.size (by simp; omega))
  have hg2 : g < W2.heap.size := Var.lt hr2
  obtain ⟨q, hq⟩ : ∃ q, q = W2.heap.size := ⟨_, rfl⟩
  have HQ := Lib.hid hq
  clear hq hr1 v1 bb1 k2 H0
  go_wp2_with (refine wpList_store_var rfl _ _ rfl rfl rfl (Var.new W2 #[.int .i8 0, .int .i64 0, .int .i64 0, .int .i64 0, .bool false, .slice none 0 0, .bool false, .int .i64 0, .int .i64 0, .int .i64 0, .int .i64 0, .int .i64 0, .string ⟨#[]⟩, .string ⟨#[]⟩, .int .i64 0, .int .i64 0, .int .i64 0, .slice none 0 0] 32) rfl (by kernel_rfl) (by simp [Value.oneCell']) ?_; rw [← HQ.out]; intro W3 v3 o3; have st : T1 w W3 g q s p0 b0 #[.int .i8 0, .int .i64 0, .int .i64 0, .int .i64 0, .bool false, .slice none 0 0, .bool false, .int .i64 0, .int .i64 0, .int .i64 0, .int .i64 0, .int .i64 0, .string ⟨#[]⟩, .string ⟨#[]⟩, .int .i64 0, .int .i64 0, .int .i64 0, .slice none 0 0] := T1.first hr2 v2 bb2 hgw HQ.out hg2 v3 _ o3; have e0 := st.ve.cell 0 rfl; have zq := st.ve.lt)
  clear hr2 v2 bb2 hg2 v3 o3 e0 zq
  refine (ref_take_any g s p0 b0 b p bad _ H1.out st.rd hx q0).mono ?_
  rintro e V3 ⟨A, c, rfl, hr, hown, hk⟩
  have hq0 : g < q := st.hg.2
  have zq0 := st.ve.lt
  have st := st.read hr hk
  have ho : EOwn (g + 1) V3 (dataE b) A b.rs.length c none 0 0 := ⟨own_down hown (by omega), World.ownsRow_nil _ _ _ _, rfl, rfl, ⟨hl4, by omega⟩, hgd, ⟨by simp [dataE, noRw, ByteArray.size], by simp [dataE, noRw, ByteArray.size]⟩⟩
  have e0 := st.ve.cell 0 rfl
  have e1 := st.ve.cell 1 rfl
  have e2 := st.ve.cell 2 rfl
  have e3 := st.ve.cell 3 rfl
  have e4 := st.ve.cell 4 rfl
  have e5 := st.ve.cell 5 rfl
  have f0 := st.ve.free
  have zq := st.ve.lt
  have ho := ho.set (i := 1) (v := .int .i64 b.pid) st.ve
  have st := st.set 1 (.int .i64 b.pid)
  have ho := ho.set (i := 2) (v := .int .i64 b.ep) st.ve
  have st := st.set 2 (.int .i64 b.ep)
  have ho := ho.set (i := 3) (v := .int .i64 b.sq) st.ve
  have st := st.set 3 (.int .i64 b.sq)
  have ho := ho.set (i := 4) (v := .bool b.tx) st.ve
  have st := st.set 4 (.bool b.tx)
  have ho := ho.set (i := 5) (v := .slice A b.rs.length c) st.ve
  have st := st.set 5 (.slice A b.rs.length c)
  simp only [List.setIfInBounds_toArray, List.set_cons_zero, List.set_cons_succ] at st
  clear hr hk hown zq0 hq0
  go_upto_region 38 with fail
  clear e0 e1 e2 e3 e4 e5 f0 zq
  have ho := ho.alike (y := dataE b) rfl rfl rfl
  refine wp_at (C := fun W => T1 w W g q s p bad (evals (dataE b) A b.rs.length c none 0 0) ∧ EOwn (g + 1) W (dataE b) A b.rs.length c none 0 0) ⟨st, ho⟩ ?_
  clear st ho
  rintro W6 ⟨st, ho⟩
  have v6 := st.ve
  simp only [evals, dataE, noRw, noPd] at v6
  obtain ⟨er0, her⟩ := endIs_of s p bad
  have HER := Lib.hid her
  clear her
  go_wp2_with fail
  refine (ref_end g s p bad er0 W6 HER.out st.rd).mono ?_
  rintro e W7 ⟨rfl, nq, rfl⟩
  have bq : Below W6.heap.size W6 (W6.drewN nq) := (Below.refl _ _).drewN' nq
  have st := st.next bq
  have hx7 := ho.next bq
  have v7 := v6.drewN nq
  clear ho v6
  generalize W6.drewN nq = W7 at bq st hx7 v7 ⊢
  rcases HER.out with ⟨hbad, hps, rfl⟩ | ⟨hbp, rfl⟩
  · have y0 : ((0 : Int) != 0) = false := by decide
    have HBP : Hid (bad = false ∧ p = s.size) := ⟨hbad, hps⟩
    clear hbad hps HER
    obtain ⟨u, hu⟩ := iff_of (En.Good (dataE b))
    have HU := Lib.hid hu
    clear hu
    go_wp2_with (refine wpList_load_want (by rfl) _ rfl Tryz.underlying32 rfl rfl v7 (by kernel_rfl) ?_)
    refine (ref_emay_any (dataE b) A none b.rs.length c 0 0 W7.heap.size u W7 hx7.ein (Nat.le_refl _) HU.out).mono ?_
    rintro e W8 ⟨rfl, h8⟩
    have st := st.next h8
    have v8 := v7.below h8 v7.lt
    have hx8 := hx7.next h8
    clear v7 hx7 bq
    cases u with
    | true =>
      obtain ⟨rfl, rfl⟩ : er = 0 ∧ x = dataE b := by
        rcases HT.out with ⟨_, _, _, h, h'⟩ | ⟨h | h | h, _⟩
        · exact ⟨h, h'⟩
        · rw [HBP.out.1] at h; cases h
        · exact absurd HBP.out.2 h
        · exact absurd (HU.out.1 (by first | rfl | trivial)) h
      clear HT HU HBP
      go_wp2_with (first | refine wpList_load_var rfl _ rfl Tryz.underlying32 rfl rfl v8 (by kernel_rfl) ?_ | (refine wpList_store_var rfl _ _ rfl rfl rfl st.vr rfl (by kernel_rfl) (by simp [Value.oneCell']) ?_; intro W9 v9 o9))
      refine bodyPost_ret (results_var_tmp rfl rfl rfl v9 Tryz.underlying32 rfl (by kernel_rfl)) rfl ?_
      have hlow := st.hg
      exact ⟨A, b.rs.length, c, none, 0, 0, rfl, (hx8.only o9 (by omega)).down (by omega), Only.below st.below o9 (Nat.le_refl _)⟩
    | false =>
      obtain ⟨rfl, rfl⟩ : er = 70 ∧ x = noEn := by
        rcases HT.out with ⟨_, _, h, _⟩ | ⟨_, h, h'⟩
        · have := HU.out.2 h; cases this
        · exact ⟨h, h'⟩
      clear HT HU HBP hx8 v8
      go_wp2_with (refine wpList_store_var rfl _ _ rfl rfl rfl st.vr rfl (by kernel_rfl) (by simp [Value.oneCell']) ?_; intro W9 v9 o9)
      refine bodyPost_ret (results_var_tmp rfl rfl rfl v9 Tryz.underlying32 rfl (by kernel_rfl)) rfl ?_
      exact ⟨none, 0, 0, none, 0, 0, rfl, noEn_own _ _, Only.below st.below o9 (Nat.le_refl _)⟩
  · have y0 : ((70 : Int) != 0) = true := by decide
    obtain ⟨rfl, rfl⟩ : er = 70 ∧ x = noEn := by
      rcases HT.out with ⟨h1, h2, _⟩ | ⟨_, h, h'⟩
      · rcases hbp with h | h
        · rw [h1] at h; cases h
        · exact absurd h2 h
      · exact ⟨h, h'⟩
    clear HT hx7 v7 hbp HER bq
    go_wp2_with (refine wpList_store_var rfl _ _ rfl rfl rfl st.vr rfl (by kernel_rfl) (by simp [Value.oneCell']) ?_; intro W9 v9 o9)
    refine bodyPost_ret (results_var_tmp rfl rfl rfl v9 Tryz.underlying32 rfl (by kernel_rfl)) rfl ?_
    exact ⟨none, 0, 0, none, 0, 0, rfl, noEn_own _ _, Only.below st.below o9 (Nat.le_refl _)⟩

set_option maxRecDepth 100000 in
set_option maxHeartbeats 2000000 in
theorem rread_mark (s : ByteArray) (x : En) (er : Int) (p0 p : Nat) (b0 bad : Bool) (pid ep : Int) (p1 p2 : Nat) (b1 b2 : Bool) (yes : Bool) (w : World) (hx : s.size ≤ 1000000) (h0 : NumIs s 0 false 0 127 1 p0 b0) (h1 : NumIs s p0 b0 0 8 pid p1 b1) (h2 : NumIs s p1 b1 0 100 ep p2 b2) (h3 : FlagIs s p2 b2 yes p bad) (hT : Told s x er (markE pid ep yes) p bad) :
    Calls Tryz.prog 19 #[.string s] w (EReadOwn w x er) := by
  have q0 : p0 ≤ s.size := h0.le (Nat.zero_le _)
  have q1 := h1.le q0
  have q2 := h2.le q1
  have H1 := Lib.hid h1
  have H2 := Lib.hid h2
  have H3 := Lib.hid h3
  clear h1 h2 h3
  have H0 := Lib.hid h0
  have HT := Lib.hid hT
  clear h0 hT
  obtain ⟨W0, hW0⟩ : ∃ W0, W0 = w.alloc (.cells #[.int .i8 0, .int .i64 0, .int .i64 0, .int .i64 0, .bool false, .slice none 0 0, .bool false, .int .i64 0, .int .i64 0, .int .i64 0, .int .i64 0, .int .i64 0, .string ⟨#[]⟩, .string ⟨#[]⟩, .int .i64 0, .int .i64 0, .int .i64 0, .slice none 0 0] 32) := ⟨_, rfl⟩
  have v0 : Var W0 w.heap.size 32 zeroE := by rw [hW0]; exact Var.new _ _ _
  have b0' : Below w.heap.size w W0 := by rw [hW0]; exact below_new _
  have HW0 := Lib.hid hW0
  clear hW0
  go_enter Tryz.func19, Tryz.ntmps19
  go_upto_region 1 with fail
  rw [← HW0.out]
  go_wp2_with fail
  refine (ref_new s W0).mono ?_
  rintro e W1 ⟨rfl, hr1, h1⟩
  obtain ⟨g, hgg⟩ : ∃ g, g = W0.heap.size := ⟨_, rfl⟩
  have hgw : w.heap.size < g := by rw [hgg]; exact v0.lt
  have v1 := v0.below h1 v0.lt
  have bb1 := b0'.trans (h1.mono b0'.size)
  rw [← hgg] at hr1 ⊢
  clear hgg v0 b0' h1 HW0
  go_wp2_with fail
  refine (ref_number_all g s 0 W1 false 0 127 1 p0 b0 H0.out hr1 hx (Nat.zero_le _)).mono ?_
  rintro e W2 ⟨rfl, hr2, k2⟩
  have v2 := v1.kept k2 (by simp; omega)
  have bb2 := bb1.trans (k2.below bb1.size (by simp; omega))
  have hg2 : g < W2.heap.size := Var.lt hr2
  obtain ⟨q, hq⟩ : ∃ q, q = W2.heap.size := ⟨_, rfl⟩
  have HQ := Lib.hid hq
  clear hq hr1 v1 bb1 k2 H0
  go_wp2_with (refine wpList_store_var rfl _ _ rfl rfl rfl (Var.new W2 #[.int .i8 0, .int .i64 0, .int .i64 0, .int .i64 0, .bool false, .slice none 0 0, .bool false, .int .i64 0, .int .i64 0, .int .i64 0, .int .i64 0, .int .i64 0, .string ⟨#[]⟩, .string ⟨#[]⟩, .int .i64 0, .int .i64 0, .int .i64 0, .slice none 0 0] 32) rfl (by kernel_rfl) (by simp [Value.oneCell']) ?_; rw [← HQ.out]; intro W3 v3 o3; have st : T1 w W3 g q s p0 b0 #[.int .i8 1, .int .i64 0, .int .i64 0, .int .i64 0, .bool false, .slice none 0 0, .bool false, .int .i64 0, .int .i64 0, .int .i64 0, .int .i64 0, .int .i64 0, .string ⟨#[]⟩, .string ⟨#[]⟩, .int .i64 0, .int .i64 0, .int .i64 0, .slice none 0 0] := T1.first hr2 v2 bb2 hgw HQ.out hg2 v3 _ o3; have e0 := st.ve.cell 0 rfl; have zq := st.ve.lt)
  clear hr2 v2 bb2 hg2 v3 o3 e0 zq
  refine (ref_number_all g s p0 _ b0 0 8 pid p1 b1 H1.out st.rd hx q0).mono ?_
  rintro e V3 ⟨rfl, hr, hk⟩
  have st := st.read hr hk
  have e0 := st.ve.cell 0 rfl
  have e1 := st.ve.cell 1 rfl
  have f1 := st.ve.free 1
  have zq := st.ve.lt
  have st := st.set 1 (.int .i64 pid)
  simp only [List.setIfInBounds_toArray, List.set_cons_zero, List.set_cons_succ] at st
  clear hr hk
  go_wp2_with fail
  clear e0 e1 f1 zq
  refine (ref_number_all g s p1 _ b1 0 100 ep p2 b2 H2.out st.rd hx q1).mono ?_
  rintro e V4 ⟨rfl, hr, hk⟩
  have st := st.read hr hk
  have e0 := st.ve.cell 0 rfl
  have e2 := st.ve.cell 2 rfl
  have f2 := st.ve.free 2
  have zq := st.ve.lt
  have st := st.set 2 (.int .i64 ep)
  simp only [List.setIfInBounds_toArray, List.set_cons_zero, List.set_cons_succ] at st
  clear hr hk
  go_wp2_with fail
  clear e0 e2 f2 zq
  refine (ref_flag_all g s p2 _ b2 yes p bad H3.out st.rd hx).mono ?_
  rintro e V5 ⟨rfl, hr, hk⟩
  have st := st.read hr hk
  have e0 := st.ve.cell 0 rfl
  have e6 := st.ve.cell 6 rfl
  have f6 := st.ve.free 6
  have zq := st.ve.lt
  have st := st.set 6 (.bool yes)
  simp only [List.setIfInBounds_toArray, List.set_cons_zero, List.set_cons_succ] at st
  clear hr hk
  go_upto_region 38 with fail
  clear e0 e6 f6 zq
  have ho := fun W => bare_in W (g + 1) (x := markE pid ep yes) rfl rfl ⟨by simp [markE, noRw, ByteArray.size], by simp [markE, noRw, ByteArray.size]⟩
  refine wp_at (C := fun W => T1 w W g q s p bad (evals (markE pid ep yes) none 0 0 none 0 0) ∧ EOwn (g + 1) W (markE pid ep yes) none 0 0 none 0 0) ⟨st, ho _⟩ ?_
  clear st ho
  rintro W6 ⟨st, ho⟩
  have v6 := st.ve
  simp only [evals, markE, noRw, noPd] at v6
  obtain ⟨er0, her⟩ := endIs_of s p bad
  have HER := Lib.hid her
  clear her
  go_wp2_with fail
  refine (ref_end g s p bad er0 W6 HER.out st.rd).mono ?_
  rintro e W7 ⟨rfl, nq, rfl⟩
  have bq : Below W6.heap.size W6 (W6.drewN nq) := (Below.refl _ _).drewN' nq
  have st := st.next bq
  have hx7 := ho.next bq
  have v7 := v6.drewN nq
  clear ho v6
  generalize W6.drewN nq = W7 at bq st hx7 v7 ⊢
  rcases HER.out with ⟨hbad, hps, rfl⟩ | ⟨hbp, rfl⟩
  · have y0 : ((0 : Int) != 0) = false := by decide
    have HBP : Hid (bad = false ∧ p = s.size) := ⟨hbad, hps⟩
    clear hbad hps HER
    obtain ⟨u, hu⟩ := iff_of (En.Good (markE pid ep yes))
    have HU := Lib.hid hu
    clear hu
    go_wp2_with (refine wpList_load_want (by rfl) _ rfl Tryz.underlying32 rfl rfl v7 (by kernel_rfl) ?_)
    refine (ref_emay_any (markE pid ep yes) none none 0 0 0 0 W7.heap.size u W7 hx7.ein (Nat.le_refl _) HU.out).mono ?_
    rintro e W8 ⟨rfl, h8⟩
    have st := st.next h8
    have v8 := v7.below h8 v7.lt
    have hx8 := hx7.next h8
    clear v7 hx7 bq
    cases u with
    | true =>
      obtain ⟨rfl, rfl⟩ : er = 0 ∧ x = markE pid ep yes := by
        rcases HT.out with ⟨_, _, _, h, h'⟩ | ⟨h | h | h, _⟩
        · exact ⟨h, h'⟩
        · rw [HBP.out.1] at h; cases h
        · exact absurd HBP.out.2 h
        · exact absurd (HU.out.1 (by first | rfl | trivial)) h
      clear HT HU HBP
      go_wp2_with (first | refine wpList_load_var rfl _ rfl Tryz.underlying32 rfl rfl v8 (by kernel_rfl) ?_ | (refine wpList_store_var rfl _ _ rfl rfl rfl st.vr rfl (by kernel_rfl) (by simp [Value.oneCell']) ?_; intro W9 v9 o9))
      refine bodyPost_ret (results_var_tmp rfl rfl rfl v9 Tryz.underlying32 rfl (by kernel_rfl)) rfl ?_
      have hlow := st.hg
      exact ⟨none, 0, 0, none, 0, 0, rfl, (hx8.only o9 (by omega)).down (by omega), Only.below st.below o9 (Nat.le_refl _)⟩
    | false =>
      obtain ⟨rfl, rfl⟩ : er = 70 ∧ x = noEn := by
        rcases HT.out with ⟨_, _, h, _⟩ | ⟨_, h, h'⟩
        · have := HU.out.2 h; cases this
        · exact ⟨h, h'⟩
      clear HT HU HBP hx8 v8
      go_wp2_with (refine wpList_store_var rfl _ _ rfl rfl rfl st.vr rfl (by kernel_rfl) (by simp [Value.oneCell']) ?_; intro W9 v9 o9)
      refine bodyPost_ret (results_var_tmp rfl rfl rfl v9 Tryz.underlying32 rfl (by kernel_rfl)) rfl ?_
      exact ⟨none, 0, 0, none, 0, 0, rfl, noEn_own _ _, Only.below st.below o9 (Nat.le_refl _)⟩
  · have y0 : ((70 : Int) != 0) = true := by decide
    obtain ⟨rfl, rfl⟩ : er = 70 ∧ x = noEn := by
      rcases HT.out with ⟨h1, h2, _⟩ | ⟨_, h, h'⟩
      · rcases hbp with h | h
        · rw [h1] at h; cases h
        · exact absurd h2 h
      · exact ⟨h, h'⟩
    clear HT hx7 v7 hbp HER bq
    go_wp2_with (refine wpList_store_var rfl _ _ rfl rfl rfl st.vr rfl (by kernel_rfl) (by simp [Value.oneCell']) ?_; intro W9 v9 o9)
    refine bodyPost_ret (results_var_tmp rfl rfl rfl v9 Tryz.underlying32 rfl (by kernel_rfl)) rfl ?_
    exact ⟨none, 0, 0, none, 0, 0, rfl, noEn_own _ _, Only.below st.below o9 (Nat.le_refl _)⟩

set_option maxRecDepth 100000 in
set_option maxHeartbeats 2000000 in
theorem rread_cut (s : ByteArray) (x : En) (er : Int) (p0 p : Nat) (b0 bad : Bool) (off : Int) (w : World) (hx : s.size ≤ 1000000) (h0 : NumIs s 0 false 0 127 2 p0 b0) (h1 : NumIs s p0 b0 0 1048576 off p bad) (hT : Told s x er (cutE off) p bad) :
    Calls Tryz.prog 19 #[.string s] w (EReadOwn w x er) := by
  have q0 : p0 ≤ s.size := h0.le (Nat.zero_le _)
  have H1 := Lib.hid h1
  clear h1
  have H0 := Lib.hid h0
  have HT := Lib.hid hT
  clear h0 hT
  obtain ⟨W0, hW0⟩ : ∃ W0, W0 = w.alloc (.cells #[.int .i8 0, .int .i64 0, .int .i64 0, .int .i64 0, .bool false, .slice none 0 0, .bool false, .int .i64 0, .int .i64 0, .int .i64 0, .int .i64 0, .int .i64 0, .string ⟨#[]⟩, .string ⟨#[]⟩, .int .i64 0, .int .i64 0, .int .i64 0, .slice none 0 0] 32) := ⟨_, rfl⟩
  have v0 : Var W0 w.heap.size 32 zeroE := by rw [hW0]; exact Var.new _ _ _
  have b0' : Below w.heap.size w W0 := by rw [hW0]; exact below_new _
  have HW0 := Lib.hid hW0
  clear hW0
  go_enter Tryz.func19, Tryz.ntmps19
  go_upto_region 1 with fail
  rw [← HW0.out]
  go_wp2_with fail
  refine (ref_new s W0).mono ?_
  rintro e W1 ⟨rfl, hr1, h1⟩
  obtain ⟨g, hgg⟩ : ∃ g, g = W0.heap.size := ⟨_, rfl⟩
  have hgw : w.heap.size < g := by rw [hgg]; exact v0.lt
  have v1 := v0.below h1 v0.lt
  have bb1 := b0'.trans (h1.mono b0'.size)
  rw [← hgg] at hr1 ⊢
  clear hgg v0 b0' h1 HW0
  go_wp2_with fail
  refine (ref_number_all g s 0 W1 false 0 127 2 p0 b0 H0.out hr1 hx (Nat.zero_le _)).mono ?_
  rintro e W2 ⟨rfl, hr2, k2⟩
  have v2 := v1.kept k2 (by simp; omega)
  have bb2 := bb1.trans (k2.below bb1.size (by simp; omega))
  have hg2 : g < W2.heap.size := Var.lt hr2
  obtain ⟨q, hq⟩ : ∃ q, q = W2.heap.size := ⟨_, rfl⟩
  have HQ := Lib.hid hq
  clear hq hr1 v1 bb1 k2 H0
  go_wp2_with (refine wpList_store_var rfl _ _ rfl rfl rfl (Var.new W2 #[.int .i8 0, .int .i64 0, .int .i64 0, .int .i64 0, .bool false, .slice none 0 0, .bool false, .int .i64 0, .int .i64 0, .int .i64 0, .int .i64 0, .int .i64 0, .string ⟨#[]⟩, .string ⟨#[]⟩, .int .i64 0, .int .i64 0, .int .i64 0, .slice none 0 0] 32) rfl (by kernel_rfl) (by simp [Value.oneCell']) ?_; rw [← HQ.out]; intro W3 v3 o3; have st : T1 w W3 g q s p0 b0 #[.int .i8 2, .int .i64 0, .int .i64 0, .int .i64 0, .bool false, .slice none 0 0, .bool false, .int .i64 0, .int .i64 0, .int .i64 0, .int .i64 0, .int .i64 0, .string ⟨#[]⟩, .string ⟨#[]⟩, .int .i64 0, .int .i64 0, .int .i64 0, .slice none 0 0] := T1.first hr2 v2 bb2 hgw HQ.out hg2 v3 _ o3; have e0 := st.ve.cell 0 rfl; have zq := st.ve.lt)
  clear hr2 v2 bb2 hg2 v3 o3 e0 zq
  refine (ref_number_all g s p0 _ b0 0 1048576 off p bad H1.out st.rd hx q0).mono ?_
  rintro e V3 ⟨rfl, hr, hk⟩
  have st := st.read hr hk
  have e0 := st.ve.cell 0 rfl
  have e8 := st.ve.cell 8 rfl
  have f8 := st.ve.free 8
  have zq := st.ve.lt
  have st := st.set 8 (.int .i64 off)
  simp only [List.setIfInBounds_toArray, List.set_cons_zero, List.set_cons_succ] at st
  clear hr hk
  go_upto_region 38 with fail
  clear e0 e8 f8 zq
  have ho := fun W => bare_in W (g + 1) (x := cutE off) rfl rfl ⟨by simp [cutE, noRw, ByteArray.size], by simp [cutE, noRw, ByteArray.size]⟩
  refine wp_at (C := fun W => T1 w W g q s p bad (evals (cutE off) none 0 0 none 0 0) ∧ EOwn (g + 1) W (cutE off) none 0 0 none 0 0) ⟨st, ho _⟩ ?_
  clear st ho
  rintro W6 ⟨st, ho⟩
  have v6 := st.ve
  simp only [evals, cutE, noRw, noPd, noBt] at v6
  obtain ⟨er0, her⟩ := endIs_of s p bad
  have HER := Lib.hid her
  clear her
  go_wp2_with fail
  refine (ref_end g s p bad er0 W6 HER.out st.rd).mono ?_
  rintro e W7 ⟨rfl, nq, rfl⟩
  have bq : Below W6.heap.size W6 (W6.drewN nq) := (Below.refl _ _).drewN' nq
  have st := st.next bq
  have hx7 := ho.next bq
  have v7 := v6.drewN nq
  clear ho v6
  generalize W6.drewN nq = W7 at bq st hx7 v7 ⊢
  rcases HER.out with ⟨hbad, hps, rfl⟩ | ⟨hbp, rfl⟩
  · have y0 : ((0 : Int) != 0) = false := by decide
    have HBP : Hid (bad = false ∧ p = s.size) := ⟨hbad, hps⟩
    clear hbad hps HER
    obtain ⟨u, hu⟩ := iff_of (En.Good (cutE off))
    have HU := Lib.hid hu
    clear hu
    go_wp2_with (refine wpList_load_want (by rfl) _ rfl Tryz.underlying32 rfl rfl v7 (by kernel_rfl) ?_)
    refine (ref_emay_any (cutE off) none none 0 0 0 0 W7.heap.size u W7 hx7.ein (Nat.le_refl _) HU.out).mono ?_
    rintro e W8 ⟨rfl, h8⟩
    have st := st.next h8
    have v8 := v7.below h8 v7.lt
    have hx8 := hx7.next h8
    clear v7 hx7 bq
    cases u with
    | true =>
      obtain ⟨rfl, rfl⟩ : er = 0 ∧ x = cutE off := by
        rcases HT.out with ⟨_, _, _, h, h'⟩ | ⟨h | h | h, _⟩
        · exact ⟨h, h'⟩
        · rw [HBP.out.1] at h; cases h
        · exact absurd HBP.out.2 h
        · exact absurd (HU.out.1 (by first | rfl | trivial)) h
      clear HT HU HBP
      go_wp2_with (first | refine wpList_load_var rfl _ rfl Tryz.underlying32 rfl rfl v8 (by kernel_rfl) ?_ | (refine wpList_store_var rfl _ _ rfl rfl rfl st.vr rfl (by kernel_rfl) (by simp [Value.oneCell']) ?_; intro W9 v9 o9))
      refine bodyPost_ret (results_var_tmp rfl rfl rfl v9 Tryz.underlying32 rfl (by kernel_rfl)) rfl ?_
      have hlow := st.hg
      exact ⟨none, 0, 0, none, 0, 0, rfl, (hx8.only o9 (by omega)).down (by omega), Only.below st.below o9 (Nat.le_refl _)⟩
    | false =>
      obtain ⟨rfl, rfl⟩ : er = 70 ∧ x = noEn := by
        rcases HT.out with ⟨_, _, h, _⟩ | ⟨_, h, h'⟩
        · have := HU.out.2 h; cases this
        · exact ⟨h, h'⟩
      clear HT HU HBP hx8 v8
      go_wp2_with (refine wpList_store_var rfl _ _ rfl rfl rfl st.vr rfl (by kernel_rfl) (by simp [Value.oneCell']) ?_; intro W9 v9 o9)
      refine bodyPost_ret (results_var_tmp rfl rfl rfl v9 Tryz.underlying32 rfl (by kernel_rfl)) rfl ?_
      exact ⟨none, 0, 0, none, 0, 0, rfl, noEn_own _ _, Only.below st.below o9 (Nat.le_refl _)⟩
  · have y0 : ((70 : Int) != 0) = true := by decide
    obtain ⟨rfl, rfl⟩ : er = 70 ∧ x = noEn := by
      rcases HT.out with ⟨h1, h2, _⟩ | ⟨_, h, h'⟩
      · rcases hbp with h | h
        · rw [h1] at h; cases h
        · exact absurd h2 h
      · exact ⟨h, h'⟩
    clear HT hx7 v7 hbp HER bq
    go_wp2_with (refine wpList_store_var rfl _ _ rfl rfl rfl st.vr rfl (by kernel_rfl) (by simp [Value.oneCell']) ?_; intro W9 v9 o9)
    refine bodyPost_ret (results_var_tmp rfl rfl rfl v9 Tryz.underlying32 rfl (by kernel_rfl)) rfl ?_
    exact ⟨none, 0, 0, none, 0, 0, rfl, noEn_own _ _, Only.below st.below o9 (Nat.le_refl _)⟩

set_option maxRecDepth 100000 in
set_option maxHeartbeats 2000000 in
theorem rread_copy (s : ByteArray) (x : En) (er : Int) (p0 p : Nat) (b0 bad : Bool) (b : Bt) (p1 p2 : Nat) (b1 b2 : Bool) (nx : Int) (w : World) (hx : s.size ≤ 1000000) (h0 : NumIs s 0 false 0 127 3 p0 b0) (h1 : TakeIs s p0 b0 b p1 b1) (h2 : FlagIs s p1 b1 true p2 b2) (h3 : NumIs s p2 b2 0 1048576 nx p bad) (hT : Told s x er (copyE b true nx) p bad) :
    Calls Tryz.prog 19 #[.string s] w (EReadOwn w x er) := by
  have q0 : p0 ≤ s.size := h0.le (Nat.zero_le _)
  have q1 := h1.le q0
  have q2 := h2.le q1
  obtain ⟨hl4, hgd⟩ := h1.small
  have H1 := Lib.hid h1
  have H2 := Lib.hid h2
  have H3 := Lib.hid h3
  clear h1 h2 h3
  have H0 := Lib.hid h0
  have HT := Lib.hid hT
  clear h0 hT
  obtain ⟨W0, hW0⟩ : ∃ W0, W0 = w.alloc (.cells #[.int .i8 0, .int .i64 0, .int .i64 0, .int .i64 0, .bool false, .slice none 0 0, .bool false, .int .i64 0, .int .i64 0, .int .i64 0, .int .i64 0, .int .i64 0, .string ⟨#[]⟩, .string ⟨#[]⟩, .int .i64 0, .int .i64 0, .int .i64 0, .slice none 0 0] 32) := ⟨_, rfl⟩
  have v0 : Var W0 w.heap.size 32 zeroE := by rw [hW0]; exact Var.new _ _ _
  have b0' : Below w.heap.size w W0 := by rw [hW0]; exact below_new _
  have HW0 := Lib.hid hW0
  clear hW0
  go_enter Tryz.func19, Tryz.ntmps19
  go_upto_region 1 with fail
  rw [← HW0.out]
  go_wp2_with fail
  refine (ref_new s W0).mono ?_
  rintro e W1 ⟨rfl, hr1, h1⟩
  obtain ⟨g, hgg⟩ : ∃ g, g = W0.heap.size := ⟨_, rfl⟩
  have hgw : w.heap.size < g := by rw [hgg]; exact v0.lt
  have v1 := v0.below h1 v0.lt
  have bb1 := b0'.trans (h1.mono b0'.size)
  rw [← hgg] at hr1 ⊢
  clear hgg v0 b0' h1 HW0
  go_wp2_with fail
  refine (ref_number_all g s 0 W1 false 0 127 3 p0 b0 H0.out hr1 hx (Nat.zero_le _)).mono ?_
  rintro e W2 ⟨rfl, hr2, k2⟩
  have v2 := v1.kept k2 (by simp; omega)
  have bb2 := bb1.trans (k2.below bb1.size (by simp; omega))
  have hg2 : g < W2.heap.size := Var.lt hr2
  obtain ⟨q, hq⟩ : ∃ q, q = W2.heap.size := ⟨_, rfl⟩
  have HQ := Lib.hid hq
  clear hq hr1 v1 bb1 k2 H0
  go_wp2_with (refine wpList_store_var rfl _ _ rfl rfl rfl (Var.new W2 #[.int .i8 0, .int .i64 0, .int .i64 0, .int .i64 0, .bool false, .slice none 0 0, .bool false, .int .i64 0, .int .i64 0, .int .i64 0, .int .i64 0, .int .i64 0, .string ⟨#[]⟩, .string ⟨#[]⟩, .int .i64 0, .int .i64 0, .int .i64 0, .slice none 0 0] 32) rfl (by kernel_rfl) (by simp [Value.oneCell']) ?_; rw [← HQ.out]; intro W3 v3 o3; have st : T1 w W3 g q s p0 b0 #[.int .i8 3, .int .i64 0, .int .i64 0, .int .i64 0, .bool false, .slice none 0 0, .bool false, .int .i64 0, .int .i64 0, .int .i64 0, .int .i64 0, .int .i64 0, .string ⟨#[]⟩, .string ⟨#[]⟩, .int .i64 0, .int .i64 0, .int .i64 0, .slice none 0 0] := T1.first hr2 v2 bb2 hgw HQ.out hg2 v3 _ o3; have e0 := st.ve.cell 0 rfl; have zq := st.ve.lt)
  clear hr2 v2 bb2 hg2 v3 o3 e0 zq
  refine (ref_take_any g s p0 b0 b p1 b1 _ H1.out st.rd hx q0).mono ?_
  rintro e V3 ⟨A, c, rfl, hr, hown, hk⟩
  have hq0 : g < q := st.hg.2
  have zq0 := st.ve.lt
  have st := st.read hr hk
  have ho : EOwn (g + 1) V3 (dataE b) A b.rs.length c none 0 0 := ⟨own_down hown (by omega), World.ownsRow_nil _ _ _ _, rfl, rfl, ⟨hl4, by omega⟩, hgd, ⟨by simp [dataE, noRw, ByteArray.size], by simp [dataE, noRw, ByteArray.size]⟩⟩
  have e0 := st.ve.cell 0 rfl
  have e1 := st.ve.cell 1 rfl
  have e2 := st.ve.cell 2 rfl
  have e3 := st.ve.cell 3 rfl
  have e4 := st.ve.cell 4 rfl
  have e5 := st.ve.cell 5 rfl
  have f0 := st.ve.free
  have zq := st.ve.lt
  have ho := ho.set (i := 1) (v := .int .i64 b.pid) st.ve
  have st := st.set 1 (.int .i64 b.pid)
  have ho := ho.set (i := 2) (v := .int .i64 b.ep) st.ve
  have st := st.set 2 (.int .i64 b.ep)
  have ho := ho.set (i := 3) (v := .int .i64 b.sq) st.ve
  have st := st.set 3 (.int .i64 b.sq)
  have ho := ho.set (i := 4) (v := .bool b.tx) st.ve
  have st := st.set 4 (.bool b.tx)
  have ho := ho.set (i := 5) (v := .slice A b.rs.length c) st.ve
  have st := st.set 5 (.slice A b.rs.length c)
  simp only [List.setIfInBounds_toArray, List.set_cons_zero, List.set_cons_succ] at st
  clear hr hk hown zq0 hq0
  go_wp2_with fail
  clear e0 e1 e2 e3 e4 e5 f0 zq
  refine (ref_flag_all g s p1 _ b1 true p2 b2 H2.out st.rd hx).mono ?_
  rintro e V4 ⟨rfl, hr, hk⟩
  have st := st.read hr hk
  have ho := ho.kept hk (by simp)
  have e0 := st.ve.cell 0 rfl
  have e6 := st.ve.cell 6 rfl
  have f6 := st.ve.free 6
  have zq := st.ve.lt
  have ho := ho.set (i := 6) (v := .bool true) st.ve
  have st := st.set 6 (.bool true)
  simp only [List.setIfInBounds_toArray, List.set_cons_zero, List.set_cons_succ] at st
  clear hr hk
  go_wp2_with fail
  clear e0 e6 f6 zq
  refine (ref_number_all g s p2 _ b2 0 1048576 nx p bad H3.out st.rd hx q2).mono ?_
  rintro e V5 ⟨rfl, hr, hk⟩
  have st := st.read hr hk
  have ho := ho.kept hk (by simp)
  have e0 := st.ve.cell 0 rfl
  have e7 := st.ve.cell 7 rfl
  have f7 := st.ve.free 7
  have zq := st.ve.lt
  have ho := ho.set (i := 7) (v := .int .i64 nx) st.ve
  have st := st.set 7 (.int .i64 nx)
  simp only [List.setIfInBounds_toArray, List.set_cons_zero, List.set_cons_succ] at st
  clear hr hk
  go_upto_region 38 with fail
  clear e0 e7 f7 zq
  have ho := ho.alike (y := copyE b true nx) rfl rfl rfl
  refine wp_at (C := fun W => T1 w W g q s p bad (evals (copyE b true nx) A b.rs.length c none 0 0) ∧ EOwn (g + 1) W (copyE b true nx) A b.rs.length c none 0 0) ⟨st, ho⟩ ?_
  clear st ho
  rintro W6 ⟨st, ho⟩
  have v6 := st.ve
  simp only [evals, copyE, noRw, noPd] at v6
  obtain ⟨er0, her⟩ := endIs_of s p bad
  have HER := Lib.hid her
  clear her
  go_wp2_with fail
  refine (ref_end g s p bad er0 W6 HER.out st.rd).mono ?_
  rintro e W7 ⟨rfl, nq, rfl⟩
  have bq : Below W6.heap.size W6 (W6.drewN nq) := (Below.refl _ _).drewN' nq
  have st := st.next bq
  have hx7 := ho.next bq
  have v7 := v6.drewN nq
  clear ho v6
  generalize W6.drewN nq = W7 at bq st hx7 v7 ⊢
  rcases HER.out with ⟨hbad, hps, rfl⟩ | ⟨hbp, rfl⟩
  · have y0 : ((0 : Int) != 0) = false := by decide
    have HBP : Hid (bad = false ∧ p = s.size) := ⟨hbad, hps⟩
    clear hbad hps HER
    obtain ⟨u, hu⟩ := iff_of (En.Good (copyE b true nx))
    have HU := Lib.hid hu
    clear hu
    go_wp2_with (refine wpList_load_want (by rfl) _ rfl Tryz.underlying32 rfl rfl v7 (by kernel_rfl) ?_)
    refine (ref_emay_any (copyE b true nx) A none b.rs.length c 0 0 W7.heap.size u W7 hx7.ein (Nat.le_refl _) HU.out).mono ?_
    rintro e W8 ⟨rfl, h8⟩
    have st := st.next h8
    have v8 := v7.below h8 v7.lt
    have hx8 := hx7.next h8
    clear v7 hx7 bq
    cases u with
    | true =>
      obtain ⟨rfl, rfl⟩ : er = 0 ∧ x = copyE b true nx := by
        rcases HT.out with ⟨_, _, _, h, h'⟩ | ⟨h | h | h, _⟩
        · exact ⟨h, h'⟩
        · rw [HBP.out.1] at h; cases h
        · exact absurd HBP.out.2 h
        · exact absurd (HU.out.1 (by first | rfl | trivial)) h
      clear HT HU HBP
      go_wp2_with (first | refine wpList_load_var rfl _ rfl Tryz.underlying32 rfl rfl v8 (by kernel_rfl) ?_ | (refine wpList_store_var rfl _ _ rfl rfl rfl st.vr rfl (by kernel_rfl) (by simp [Value.oneCell']) ?_; intro W9 v9 o9))
      refine bodyPost_ret (results_var_tmp rfl rfl rfl v9 Tryz.underlying32 rfl (by kernel_rfl)) rfl ?_
      have hlow := st.hg
      exact ⟨A, b.rs.length, c, none, 0, 0, rfl, (hx8.only o9 (by omega)).down (by omega), Only.below st.below o9 (Nat.le_refl _)⟩
    | false =>
      obtain ⟨rfl, rfl⟩ : er = 70 ∧ x = noEn := by
        rcases HT.out with ⟨_, _, h, _⟩ | ⟨_, h, h'⟩
        · have := HU.out.2 h; cases this
        · exact ⟨h, h'⟩
      clear HT HU HBP hx8 v8
      go_wp2_with (refine wpList_store_var rfl _ _ rfl rfl rfl st.vr rfl (by kernel_rfl) (by simp [Value.oneCell']) ?_; intro W9 v9 o9)
      refine bodyPost_ret (results_var_tmp rfl rfl rfl v9 Tryz.underlying32 rfl (by kernel_rfl)) rfl ?_
      exact ⟨none, 0, 0, none, 0, 0, rfl, noEn_own _ _, Only.below st.below o9 (Nat.le_refl _)⟩
  · have y0 : ((70 : Int) != 0) = true := by decide
    obtain ⟨rfl, rfl⟩ : er = 70 ∧ x = noEn := by
      rcases HT.out with ⟨h1, h2, _⟩ | ⟨_, h, h'⟩
      · rcases hbp with h | h
        · rw [h1] at h; cases h
        · exact absurd h2 h
      · exact ⟨h, h'⟩
    clear HT hx7 v7 hbp HER bq
    go_wp2_with (refine wpList_store_var rfl _ _ rfl rfl rfl st.vr rfl (by kernel_rfl) (by simp [Value.oneCell']) ?_; intro W9 v9 o9)
    refine bodyPost_ret (results_var_tmp rfl rfl rfl v9 Tryz.underlying32 rfl (by kernel_rfl)) rfl ?_
    exact ⟨none, 0, 0, none, 0, 0, rfl, noEn_own _ _, Only.below st.below o9 (Nat.le_refl _)⟩

set_option maxRecDepth 100000 in
set_option maxHeartbeats 2000000 in
theorem rread_copyno (s : ByteArray) (x : En) (er : Int) (p0 p : Nat) (b0 bad : Bool) (b : Bt) (p1 : Nat) (b1 : Bool) (w : World) (hx : s.size ≤ 1000000) (h0 : NumIs s 0 false 0 127 3 p0 b0) (h1 : TakeIs s p0 b0 b p1 b1) (h2 : FlagIs s p1 b1 false p bad) (hT : Told s x er (copyE b false 0) p bad) :
    Calls Tryz.prog 19 #[.string s] w (EReadOwn w x er) := by
  have q0 : p0 ≤ s.size := h0.le (Nat.zero_le _)
  have q1 := h1.le q0
  obtain ⟨hl4, hgd⟩ := h1.small
  have H1 := Lib.hid h1
  have H2 := Lib.hid h2
  clear h1 h2
  have H0 := Lib.hid h0
  have HT := Lib.hid hT
  clear h0 hT
  obtain ⟨W0, hW0⟩ : ∃ W0, W0 = w.alloc (.cells #[.int .i8 0, .int .i64 0, .int .i64 0, .int .i64 0, .bool false, .slice none 0 0, .bool false, .int .i64 0, .int .i64 0, .int .i64 0, .int .i64 0, .int .i64 0, .string ⟨#[]⟩, .string ⟨#[]⟩, .int .i64 0, .int .i64 0, .int .i64 0, .slice none 0 0] 32) := ⟨_, rfl⟩
  have v0 : Var W0 w.heap.size 32 zeroE := by rw [hW0]; exact Var.new _ _ _
  have b0' : Below w.heap.size w W0 := by rw [hW0]; exact below_new _
  have HW0 := Lib.hid hW0
  clear hW0
  go_enter Tryz.func19, Tryz.ntmps19
  go_upto_region 1 with fail
  rw [← HW0.out]
  go_wp2_with fail
  refine (ref_new s W0).mono ?_
  rintro e W1 ⟨rfl, hr1, h1⟩
  obtain ⟨g, hgg⟩ : ∃ g, g = W0.heap.size := ⟨_, rfl⟩
  have hgw : w.heap.size < g := by rw [hgg]; exact v0.lt
  have v1 := v0.below h1 v0.lt
  have bb1 := b0'.trans (h1.mono b0'.size)
  rw [← hgg] at hr1 ⊢
  clear hgg v0 b0' h1 HW0
  go_wp2_with fail
  refine (ref_number_all g s 0 W1 false 0 127 3 p0 b0 H0.out hr1 hx (Nat.zero_le _)).mono ?_
  rintro e W2 ⟨rfl, hr2, k2⟩
  have v2 := v1.kept k2 (by simp; omega)
  have bb2 := bb1.trans (k2.below bb1.size (by simp; omega))
  have hg2 : g < W2.heap.size := Var.lt hr2
  obtain ⟨q, hq⟩ : ∃ q, q = W2.heap.size := ⟨_, rfl⟩
  have HQ := Lib.hid hq
  clear hq hr1 v1 bb1 k2 H0
  go_wp2_with (refine wpList_store_var rfl _ _ rfl rfl rfl (Var.new W2 #[.int .i8 0, .int .i64 0, .int .i64 0, .int .i64 0, .bool false, .slice none 0 0, .bool false, .int .i64 0, .int .i64 0, .int .i64 0, .int .i64 0, .int .i64 0, .string ⟨#[]⟩, .string ⟨#[]⟩, .int .i64 0, .int .i64 0, .int .i64 0, .slice none 0 0] 32) rfl (by kernel_rfl) (by simp [Value.oneCell']) ?_; rw [← HQ.out]; intro W3 v3 o3; have st : T1 w W3 g q s p0 b0 #[.int .i8 3, .int .i64 0, .int .i64 0, .int .i64 0, .bool false, .slice none 0 0, .bool false, .int .i64 0, .int .i64 0, .int .i64 0, .int .i64 0, .int .i64 0, .string ⟨#[]⟩, .string ⟨#[]⟩, .int .i64 0, .int .i64 0, .int .i64 0, .slice none 0 0] := T1.first hr2 v2 bb2 hgw HQ.out hg2 v3 _ o3; have e0 := st.ve.cell 0 rfl; have zq := st.ve.lt)
  clear hr2 v2 bb2 hg2 v3 o3 e0 zq
  refine (ref_take_any g s p0 b0 b p1 b1 _ H1.out st.rd hx q0).mono ?_
  rintro e V3 ⟨A, c, rfl, hr, hown, hk⟩
  have hq0 : g < q := st.hg.2
  have zq0 := st.ve.lt
  have st := st.read hr hk
  have ho : EOwn (g + 1) V3 (dataE b) A b.rs.length c none 0 0 := ⟨own_down hown (by omega), World.ownsRow_nil _ _ _ _, rfl, rfl, ⟨hl4, by omega⟩, hgd, ⟨by simp [dataE, noRw, ByteArray.size], by simp [dataE, noRw, ByteArray.size]⟩⟩
  have e0 := st.ve.cell 0 rfl
  have e1 := st.ve.cell 1 rfl
  have e2 := st.ve.cell 2 rfl
  have e3 := st.ve.cell 3 rfl
  have e4 := st.ve.cell 4 rfl
  have e5 := st.ve.cell 5 rfl
  have f0 := st.ve.free
  have zq := st.ve.lt
  have ho := ho.set (i := 1) (v := .int .i64 b.pid) st.ve
  have st := st.set 1 (.int .i64 b.pid)
  have ho := ho.set (i := 2) (v := .int .i64 b.ep) st.ve
  have st := st.set 2 (.int .i64 b.ep)
  have ho := ho.set (i := 3) (v := .int .i64 b.sq) st.ve
  have st := st.set 3 (.int .i64 b.sq)
  have ho := ho.set (i := 4) (v := .bool b.tx) st.ve
  have st := st.set 4 (.bool b.tx)
  have ho := ho.set (i := 5) (v := .slice A b.rs.length c) st.ve
  have st := st.set 5 (.slice A b.rs.length c)
  simp only [List.setIfInBounds_toArray, List.set_cons_zero, List.set_cons_succ] at st
  clear hr hk hown zq0 hq0
  go_wp2_with fail
  clear e0 e1 e2 e3 e4 e5 f0 zq
  refine (ref_flag_all g s p1 _ b1 false p bad H2.out st.rd hx).mono ?_
  rintro e V4 ⟨rfl, hr, hk⟩
  have st := st.read hr hk
  have ho := ho.kept hk (by simp)
  have e0 := st.ve.cell 0 rfl
  have e6 := st.ve.cell 6 rfl
  have f6 := st.ve.free 6
  have zq := st.ve.lt
  have ho := ho.set (i := 6) (v := .bool false) st.ve
  have st := st.set 6 (.bool false)
  simp only [List.setIfInBounds_toArray, List.set_cons_zero, List.set_cons_succ] at st
  clear hr hk
  go_upto_region 38 with fail
  clear e0 e6 f6 zq
  have ho := ho.alike (y := copyE b false 0) rfl rfl rfl
  refine wp_at (C := fun W => T1 w W g q s p bad (evals (copyE b false 0) A b.rs.length c none 0 0) ∧ EOwn (g + 1) W (copyE b false 0) A b.rs.length c none 0 0) ⟨st, ho⟩ ?_
  clear st ho
  rintro W6 ⟨st, ho⟩
  have v6 := st.ve
  simp only [evals, copyE, noRw, noPd] at v6
  obtain ⟨er0, her⟩ := endIs_of s p bad
  have HER := Lib.hid her
  clear her
  go_wp2_with fail
  refine (ref_end g s p bad er0 W6 HER.out st.rd).mono ?_
  rintro e W7 ⟨rfl, nq, rfl⟩
  have bq : Below W6.heap.size W6 (W6.drewN nq) := (Below.refl _ _).drewN' nq
  have st := st.next bq
  have hx7 := ho.next bq
  have v7 := v6.drewN nq
  clear ho v6
  generalize W6.drewN nq = W7 at bq st hx7 v7 ⊢
  rcases HER.out with ⟨hbad, hps, rfl⟩ | ⟨hbp, rfl⟩
  · have y0 : ((0 : Int) != 0) = false := by decide
    have HBP : Hid (bad = false ∧ p = s.size) := ⟨hbad, hps⟩
    clear hbad hps HER
    obtain ⟨u, hu⟩ := iff_of (En.Good (copyE b false 0))
    have HU := Lib.hid hu
    clear hu
    go_wp2_with (refine wpList_load_want (by rfl) _ rfl Tryz.underlying32 rfl rfl v7 (by kernel_rfl) ?_)
    refine (ref_emay_any (copyE b false 0) A none b.rs.length c 0 0 W7.heap.size u W7 hx7.ein (Nat.le_refl _) HU.out).mono ?_
    rintro e W8 ⟨rfl, h8⟩
    have st := st.next h8
    have v8 := v7.below h8 v7.lt
    have hx8 := hx7.next h8
    clear v7 hx7 bq
    cases u with
    | true =>
      obtain ⟨rfl, rfl⟩ : er = 0 ∧ x = copyE b false 0 := by
        rcases HT.out with ⟨_, _, _, h, h'⟩ | ⟨h | h | h, _⟩
        · exact ⟨h, h'⟩
        · rw [HBP.out.1] at h; cases h
        · exact absurd HBP.out.2 h
        · exact absurd (HU.out.1 (by first | rfl | trivial)) h
      clear HT HU HBP
      go_wp2_with (first | refine wpList_load_var rfl _ rfl Tryz.underlying32 rfl rfl v8 (by kernel_rfl) ?_ | (refine wpList_store_var rfl _ _ rfl rfl rfl st.vr rfl (by kernel_rfl) (by simp [Value.oneCell']) ?_; intro W9 v9 o9))
      refine bodyPost_ret (results_var_tmp rfl rfl rfl v9 Tryz.underlying32 rfl (by kernel_rfl)) rfl ?_
      have hlow := st.hg
      exact ⟨A, b.rs.length, c, none, 0, 0, rfl, (hx8.only o9 (by omega)).down (by omega), Only.below st.below o9 (Nat.le_refl _)⟩
    | false =>
      obtain ⟨rfl, rfl⟩ : er = 70 ∧ x = noEn := by
        rcases HT.out with ⟨_, _, h, _⟩ | ⟨_, h, h'⟩
        · have := HU.out.2 h; cases this
        · exact ⟨h, h'⟩
      clear HT HU HBP hx8 v8
      go_wp2_with (refine wpList_store_var rfl _ _ rfl rfl rfl st.vr rfl (by kernel_rfl) (by simp [Value.oneCell']) ?_; intro W9 v9 o9)
      refine bodyPost_ret (results_var_tmp rfl rfl rfl v9 Tryz.underlying32 rfl (by kernel_rfl)) rfl ?_
      exact ⟨none, 0, 0, none, 0, 0, rfl, noEn_own _ _, Only.below st.below o9 (Nat.le_refl _)⟩
  · have y0 : ((70 : Int) != 0) = true := by decide
    obtain ⟨rfl, rfl⟩ : er = 70 ∧ x = noEn := by
      rcases HT.out with ⟨h1, h2, _⟩ | ⟨_, h, h'⟩
      · rcases hbp with h | h
        · rw [h1] at h; cases h
        · exact absurd h2 h
      · exact ⟨h, h'⟩
    clear HT hx7 v7 hbp HER bq
    go_wp2_with (refine wpList_store_var rfl _ _ rfl rfl rfl st.vr rfl (by kernel_rfl) (by simp [Value.oneCell']) ?_; intro W9 v9 o9)
    refine bodyPost_ret (results_var_tmp rfl rfl rfl v9 Tryz.underlying32 rfl (by kernel_rfl)) rfl ?_
    exact ⟨none, 0, 0, none, 0, 0, rfl, noEn_own _ _, Only.below st.below o9 (Nat.le_refl _)⟩

set_option maxRecDepth 100000 in
set_option maxHeartbeats 2000000 in
theorem rread_drop (s : ByteArray) (x : En) (er : Int) (p0 p : Nat) (b0 bad : Bool) (pid ep nx : Int) (p1 p2 : Nat) (b1 b2 : Bool) (w : World) (hx : s.size ≤ 1000000) (h0 : NumIs s 0 false 0 127 4 p0 b0) (h1 : NumIs s p0 b0 0 8 pid p1 b1) (h2 : NumIs s p1 b1 0 100 ep p2 b2) (h3 : NumIs s p2 b2 0 1048576 nx p bad) (hT : Told s x er (dropE pid ep nx) p bad) :
    Calls Tryz.prog 19 #[.string s] w (EReadOwn w x er) := by
  have q0 : p0 ≤ s.size := h0.le (Nat.zero_le _)
  have q1 := h1.le q0
  have q2 := h2.le q1
  have H1 := Lib.hid h1
  have H2 := Lib.hid h2
  have H3 := Lib.hid h3
  clear h1 h2 h3
  have H0 := Lib.hid h0
  have HT := Lib.hid hT
  clear h0 hT
  obtain ⟨W0, hW0⟩ : ∃ W0, W0 = w.alloc (.cells #[.int .i8 0, .int .i64 0, .int .i64 0, .int .i64 0, .bool false, .slice none 0 0, .bool false, .int .i64 0, .int .i64 0, .int .i64 0, .int .i64 0, .int .i64 0, .string ⟨#[]⟩, .string ⟨#[]⟩, .int .i64 0, .int .i64 0, .int .i64 0, .slice none 0 0] 32) := ⟨_, rfl⟩
  have v0 : Var W0 w.heap.size 32 zeroE := by rw [hW0]; exact Var.new _ _ _
  have b0' : Below w.heap.size w W0 := by rw [hW0]; exact below_new _
  have HW0 := Lib.hid hW0
  clear hW0
  go_enter Tryz.func19, Tryz.ntmps19
  go_upto_region 1 with fail
  rw [← HW0.out]
  go_wp2_with fail
  refine (ref_new s W0).mono ?_
  rintro e W1 ⟨rfl, hr1, h1⟩
  obtain ⟨g, hgg⟩ : ∃ g, g = W0.heap.size := ⟨_, rfl⟩
  have hgw : w.heap.size < g := by rw [hgg]; exact v0.lt
  have v1 := v0.below h1 v0.lt
  have bb1 := b0'.trans (h1.mono b0'.size)
  rw [← hgg] at hr1 ⊢
  clear hgg v0 b0' h1 HW0
  go_wp2_with fail
  refine (ref_number_all g s 0 W1 false 0 127 4 p0 b0 H0.out hr1 hx (Nat.zero_le _)).mono ?_
  rintro e W2 ⟨rfl, hr2, k2⟩
  have v2 := v1.kept k2 (by simp; omega)
  have bb2 := bb1.trans (k2.below bb1.size (by simp; omega))
  have hg2 : g < W2.heap.size := Var.lt hr2
  obtain ⟨q, hq⟩ : ∃ q, q = W2.heap.size := ⟨_, rfl⟩
  have HQ := Lib.hid hq
  clear hq hr1 v1 bb1 k2 H0
  go_wp2_with (refine wpList_store_var rfl _ _ rfl rfl rfl (Var.new W2 #[.int .i8 0, .int .i64 0, .int .i64 0, .int .i64 0, .bool false, .slice none 0 0, .bool false, .int .i64 0, .int .i64 0, .int .i64 0, .int .i64 0, .int .i64 0, .string ⟨#[]⟩, .string ⟨#[]⟩, .int .i64 0, .int .i64 0, .int .i64 0, .slice none 0 0] 32) rfl (by kernel_rfl) (by simp [Value.oneCell']) ?_; rw [← HQ.out]; intro W3 v3 o3; have st : T1 w W3 g q s p0 b0 #[.int .i8 4, .int .i64 0, .int .i64 0, .int .i64 0, .bool false, .slice none 0 0, .bool false, .int .i64 0, .int .i64 0, .int .i64 0, .int .i64 0, .int .i64 0, .string ⟨#[]⟩, .string ⟨#[]⟩, .int .i64 0, .int .i64 0, .int .i64 0, .slice none 0 0] := T1.first hr2 v2 bb2 hgw HQ.out hg2 v3 _ o3; have e0 := st.ve.cell 0 rfl; have zq := st.ve.lt)
  clear hr2 v2 bb2 hg2 v3 o3 e0 zq
  refine (ref_number_all g s p0 _ b0 0 8 pid p1 b1 H1.out st.rd hx q0).mono ?_
  rintro e V3 ⟨rfl, hr, hk⟩
  have st := st.read hr hk
  have e0 := st.ve.cell 0 rfl
  have e1 := st.ve.cell 1 rfl
  have f1 := st.ve.free 1
  have zq := st.ve.lt
  have st := st.set 1 (.int .i64 pid)
  simp only [List.setIfInBounds_toArray, List.set_cons_zero, List.set_cons_succ] at st
  clear hr hk
  go_wp2_with fail
  clear e0 e1 f1 zq
  refine (ref_number_all g s p1 _ b1 0 100 ep p2 b2 H2.out st.rd hx q1).mono ?_
  rintro e V4 ⟨rfl, hr, hk⟩
  have st := st.read hr hk
  have e0 := st.ve.cell 0 rfl
  have e2 := st.ve.cell 2 rfl
  have f2 := st.ve.free 2
  have zq := st.ve.lt
  have st := st.set 2 (.int .i64 ep)
  simp only [List.setIfInBounds_toArray, List.set_cons_zero, List.set_cons_succ] at st
  clear hr hk
  go_wp2_with fail
  clear e0 e2 f2 zq
  refine (ref_number_all g s p2 _ b2 0 1048576 nx p bad H3.out st.rd hx q2).mono ?_
  rintro e V5 ⟨rfl, hr, hk⟩
  have st := st.read hr hk
  have e0 := st.ve.cell 0 rfl
  have e7 := st.ve.cell 7 rfl
  have f7 := st.ve.free 7
  have zq := st.ve.lt
  have st := st.set 7 (.int .i64 nx)
  simp only [List.setIfInBounds_toArray, List.set_cons_zero, List.set_cons_succ] at st
  clear hr hk
  go_upto_region 38 with fail
  clear e0 e7 f7 zq
  have ho := fun W => bare_in W (g + 1) (x := dropE pid ep nx) rfl rfl ⟨by simp [dropE, noRw, ByteArray.size], by simp [dropE, noRw, ByteArray.size]⟩
  refine wp_at (C := fun W => T1 w W g q s p bad (evals (dropE pid ep nx) none 0 0 none 0 0) ∧ EOwn (g + 1) W (dropE pid ep nx) none 0 0 none 0 0) ⟨st, ho _⟩ ?_
  clear st ho
  rintro W6 ⟨st, ho⟩
  have v6 := st.ve
  simp only [evals, dropE, noRw, noPd] at v6
  obtain ⟨er0, her⟩ := endIs_of s p bad
  have HER := Lib.hid her
  clear her
  go_wp2_with fail
  refine (ref_end g s p bad er0 W6 HER.out st.rd).mono ?_
  rintro e W7 ⟨rfl, nq, rfl⟩
  have bq : Below W6.heap.size W6 (W6.drewN nq) := (Below.refl _ _).drewN' nq
  have st := st.next bq
  have hx7 := ho.next bq
  have v7 := v6.drewN nq
  clear ho v6
  generalize W6.drewN nq = W7 at bq st hx7 v7 ⊢
  rcases HER.out with ⟨hbad, hps, rfl⟩ | ⟨hbp, rfl⟩
  · have y0 : ((0 : Int) != 0) = false := by decide
    have HBP : Hid (bad = false ∧ p = s.size) := ⟨hbad, hps⟩
    clear hbad hps HER
    obtain ⟨u, hu⟩ := iff_of (En.Good (dropE pid ep nx))
    have HU := Lib.hid hu
    clear hu
    go_wp2_with (refine wpList_load_want (by rfl) _ rfl Tryz.underlying32 rfl rfl v7 (by kernel_rfl) ?_)
    refine (ref_emay_any (dropE pid ep nx) none none 0 0 0 0 W7.heap.size u W7 hx7.ein (Nat.le_refl _) HU.out).mono ?_
    rintro e W8 ⟨rfl, h8⟩
    have st := st.next h8
    have v8 := v7.below h8 v7.lt
    have hx8 := hx7.next h8
    clear v7 hx7 bq
    cases u with
    | true =>
      obtain ⟨rfl, rfl⟩ : er = 0 ∧ x = dropE pid ep nx := by
        rcases HT.out with ⟨_, _, _, h, h'⟩ | ⟨h | h | h, _⟩
        · exact ⟨h, h'⟩
        · rw [HBP.out.1] at h; cases h
        · exact absurd HBP.out.2 h
        · exact absurd (HU.out.1 (by first | rfl | trivial)) h
      clear HT HU HBP
      go_wp2_with (first | refine wpList_load_var rfl _ rfl Tryz.underlying32 rfl rfl v8 (by kernel_rfl) ?_ | (refine wpList_store_var rfl _ _ rfl rfl rfl st.vr rfl (by kernel_rfl) (by simp [Value.oneCell']) ?_; intro W9 v9 o9))
      refine bodyPost_ret (results_var_tmp rfl rfl rfl v9 Tryz.underlying32 rfl (by kernel_rfl)) rfl ?_
      have hlow := st.hg
      exact ⟨none, 0, 0, none, 0, 0, rfl, (hx8.only o9 (by omega)).down (by omega), Only.below st.below o9 (Nat.le_refl _)⟩
    | false =>
      obtain ⟨rfl, rfl⟩ : er = 70 ∧ x = noEn := by
        rcases HT.out with ⟨_, _, h, _⟩ | ⟨_, h, h'⟩
        · have := HU.out.2 h; cases this
        · exact ⟨h, h'⟩
      clear HT HU HBP hx8 v8
      go_wp2_with (refine wpList_store_var rfl _ _ rfl rfl rfl st.vr rfl (by kernel_rfl) (by simp [Value.oneCell']) ?_; intro W9 v9 o9)
      refine bodyPost_ret (results_var_tmp rfl rfl rfl v9 Tryz.underlying32 rfl (by kernel_rfl)) rfl ?_
      exact ⟨none, 0, 0, none, 0, 0, rfl, noEn_own _ _, Only.below st.below o9 (Nat.le_refl _)⟩
  · have y0 : ((70 : Int) != 0) = true := by decide
    obtain ⟨rfl, rfl⟩ : er = 70 ∧ x = noEn := by
      rcases HT.out with ⟨h1, h2, _⟩ | ⟨_, h, h'⟩
      · rcases hbp with h | h
        · rw [h1] at h; cases h
        · exact absurd h2 h
      · exact ⟨h, h'⟩
    clear HT hx7 v7 hbp HER bq
    go_wp2_with (refine wpList_store_var rfl _ _ rfl rfl rfl st.vr rfl (by kernel_rfl) (by simp [Value.oneCell']) ?_; intro W9 v9 o9)
    refine bodyPost_ret (results_var_tmp rfl rfl rfl v9 Tryz.underlying32 rfl (by kernel_rfl)) rfl ?_
    exact ⟨none, 0, 0, none, 0, 0, rfl, noEn_own _ _, Only.below st.below o9 (Nat.le_refl _)⟩

set_option maxRecDepth 100000 in
set_option maxHeartbeats 2000000 in
theorem rread_row (s : ByteArray) (x : En) (er : Int) (p0 p : Nat) (b0 bad : Bool) (pid sq : Int) (k v : ByteArray) (p1 p2 p3 : Nat) (b1 b2 b3 : Bool) (w : World) (hx : s.size ≤ 1000000) (h0 : NumIs s 0 false 0 127 5 p0 b0) (h1 : NumIs s p0 b0 0 8 pid p1 b1) (h2 : NumIs s p1 b1 0 1048576 sq p2 b2) (h3 : TextIs s p2 b2 16 k p3 b3) (h4 : TextIs s p3 b3 16 v p bad) (hT : Told s x er (rowE pid sq k v) p bad) :
    Calls Tryz.prog 19 #[.string s] w (EReadOwn w x er) := by
  have q0 : p0 ≤ s.size := h0.le (Nat.zero_le _)
  have q1 := h1.le q0
  have q2 := h2.le q1
  have q3 := h3.le q2
  have hk16 := h3.small
  have hv16 := h4.small
  have H1 := Lib.hid h1
  have H2 := Lib.hid h2
  have H3 := Lib.hid h3
  have H4 := Lib.hid h4
  clear h1 h2 h3 h4
  have H0 := Lib.hid h0
  have HT := Lib.hid hT
  clear h0 hT
  obtain ⟨W0, hW0⟩ : ∃ W0, W0 = w.alloc (.cells #[.int .i8 0, .int .i64 0, .int .i64 0, .int .i64 0, .bool false, .slice none 0 0, .bool false, .int .i64 0, .int .i64 0, .int .i64 0, .int .i64 0, .int .i64 0, .string ⟨#[]⟩, .string ⟨#[]⟩, .int .i64 0, .int .i64 0, .int .i64 0, .slice none 0 0] 32) := ⟨_, rfl⟩
  have v0 : Var W0 w.heap.size 32 zeroE := by rw [hW0]; exact Var.new _ _ _
  have b0' : Below w.heap.size w W0 := by rw [hW0]; exact below_new _
  have HW0 := Lib.hid hW0
  clear hW0
  go_enter Tryz.func19, Tryz.ntmps19
  go_upto_region 1 with fail
  rw [← HW0.out]
  go_wp2_with fail
  refine (ref_new s W0).mono ?_
  rintro e W1 ⟨rfl, hr1, h1⟩
  obtain ⟨g, hgg⟩ : ∃ g, g = W0.heap.size := ⟨_, rfl⟩
  have hgw : w.heap.size < g := by rw [hgg]; exact v0.lt
  have v1 := v0.below h1 v0.lt
  have bb1 := b0'.trans (h1.mono b0'.size)
  rw [← hgg] at hr1 ⊢
  clear hgg v0 b0' h1 HW0
  go_wp2_with fail
  refine (ref_number_all g s 0 W1 false 0 127 5 p0 b0 H0.out hr1 hx (Nat.zero_le _)).mono ?_
  rintro e W2 ⟨rfl, hr2, k2⟩
  have v2 := v1.kept k2 (by simp; omega)
  have bb2 := bb1.trans (k2.below bb1.size (by simp; omega))
  have hg2 : g < W2.heap.size := Var.lt hr2
  obtain ⟨q, hq⟩ : ∃ q, q = W2.heap.size := ⟨_, rfl⟩
  have HQ := Lib.hid hq
  clear hq hr1 v1 bb1 k2 H0
  go_wp2_with (refine wpList_store_var rfl _ _ rfl rfl rfl (Var.new W2 #[.int .i8 0, .int .i64 0, .int .i64 0, .int .i64 0, .bool false, .slice none 0 0, .bool false, .int .i64 0, .int .i64 0, .int .i64 0, .int .i64 0, .int .i64 0, .string ⟨#[]⟩, .string ⟨#[]⟩, .int .i64 0, .int .i64 0, .int .i64 0, .slice none 0 0] 32) rfl (by kernel_rfl) (by simp [Value.oneCell']) ?_; rw [← HQ.out]; intro W3 v3 o3; have st : T1 w W3 g q s p0 b0 #[.int .i8 5, .int .i64 0, .int .i64 0, .int .i64 0, .bool false, .slice none 0 0, .bool false, .int .i64 0, .int .i64 0, .int .i64 0, .int .i64 0, .int .i64 0, .string ⟨#[]⟩, .string ⟨#[]⟩, .int .i64 0, .int .i64 0, .int .i64 0, .slice none 0 0] := T1.first hr2 v2 bb2 hgw HQ.out hg2 v3 _ o3; have e0 := st.ve.cell 0 rfl; have zq := st.ve.lt)
  clear hr2 v2 bb2 hg2 v3 o3 e0 zq
  refine (ref_number_all g s p0 _ b0 0 8 pid p1 b1 H1.out st.rd hx q0).mono ?_
  rintro e V3 ⟨rfl, hr, hk⟩
  have st := st.read hr hk
  have e0 := st.ve.cell 0 rfl
  have e10 := st.ve.cell 10 rfl
  have f10 := st.ve.free 10
  have zq := st.ve.lt
  have st := st.set 10 (.int .i64 pid)
  simp only [List.setIfInBounds_toArray, List.set_cons_zero, List.set_cons_succ] at st
  clear hr hk
  go_wp2_with fail
  clear e0 e10 f10 zq
  refine (ref_number_all g s p1 _ b1 0 1048576 sq p2 b2 H2.out st.rd hx q1).mono ?_
  rintro e V4 ⟨rfl, hr, hk⟩
  have st := st.read hr hk
  have e0 := st.ve.cell 0 rfl
  have e11 := st.ve.cell 11 rfl
  have f11 := st.ve.free 11
  have zq := st.ve.lt
  have st := st.set 11 (.int .i64 sq)
  simp only [List.setIfInBounds_toArray, List.set_cons_zero, List.set_cons_succ] at st
  clear hr hk
  go_wp2_with fail
  clear e0 e11 f11 zq
  refine (ref_text_all g s p2 _ b2 16 k p3 b3 H3.out st.rd hx q2).mono ?_
  rintro e V5 ⟨rfl, hr, hk⟩
  have st := st.read hr hk
  have e0 := st.ve.cell 0 rfl
  have e12 := st.ve.cell 12 rfl
  have f12 := st.ve.free 12
  have zq := st.ve.lt
  have st := st.set 12 (.string k)
  simp only [List.setIfInBounds_toArray, List.set_cons_zero, List.set_cons_succ] at st
  clear hr hk
  go_wp2_with fail
  clear e0 e12 f12 zq
  refine (ref_text_all g s p3 _ b3 16 v p bad H4.out st.rd hx q3).mono ?_
  rintro e V6 ⟨rfl, hr, hk⟩
  have st := st.read hr hk
  have e0 := st.ve.cell 0 rfl
  have e13 := st.ve.cell 13 rfl
  have f13 := st.ve.free 13
  have zq := st.ve.lt
  have st := st.set 13 (.string v)
  simp only [List.setIfInBounds_toArray, List.set_cons_zero, List.set_cons_succ] at st
  clear hr hk
  go_upto_region 38 with fail
  clear e0 e13 f13 zq
  have ho := fun W => bare_in W (g + 1) (x := rowE pid sq k v) rfl rfl ⟨hk16, hv16⟩
  refine wp_at (C := fun W => T1 w W g q s p bad (evals (rowE pid sq k v) none 0 0 none 0 0) ∧ EOwn (g + 1) W (rowE pid sq k v) none 0 0 none 0 0) ⟨st, ho _⟩ ?_
  clear st ho
  rintro W6 ⟨st, ho⟩
  have v6 := st.ve
  simp only [evals, rowE, noPd, noBt] at v6
  obtain ⟨er0, her⟩ := endIs_of s p bad
  have HER := Lib.hid her
  clear her
  go_wp2_with fail
  refine (ref_end g s p bad er0 W6 HER.out st.rd).mono ?_
  rintro e W7 ⟨rfl, nq, rfl⟩
  have bq : Below W6.heap.size W6 (W6.drewN nq) := (Below.refl _ _).drewN' nq
  have st := st.next bq
  have hx7 := ho.next bq
  have v7 := v6.drewN nq
  clear ho v6
  generalize W6.drewN nq = W7 at bq st hx7 v7 ⊢
  rcases HER.out with ⟨hbad, hps, rfl⟩ | ⟨hbp, rfl⟩
  · have y0 : ((0 : Int) != 0) = false := by decide
    have HBP : Hid (bad = false ∧ p = s.size) := ⟨hbad, hps⟩
    clear hbad hps HER
    obtain ⟨u, hu⟩ := iff_of (En.Good (rowE pid sq k v))
    have HU := Lib.hid hu
    clear hu
    go_wp2_with (refine wpList_load_want (by rfl) _ rfl Tryz.underlying32 rfl rfl v7 (by kernel_rfl) ?_)
    refine (ref_emay_any (rowE pid sq k v) none none 0 0 0 0 W7.heap.size u W7 hx7.ein (Nat.le_refl _) HU.out).mono ?_
    rintro e W8 ⟨rfl, h8⟩
    have st := st.next h8
    have v8 := v7.below h8 v7.lt
    have hx8 := hx7.next h8
    clear v7 hx7 bq
    cases u with
    | true =>
      obtain ⟨rfl, rfl⟩ : er = 0 ∧ x = rowE pid sq k v := by
        rcases HT.out with ⟨_, _, _, h, h'⟩ | ⟨h | h | h, _⟩
        · exact ⟨h, h'⟩
        · rw [HBP.out.1] at h; cases h
        · exact absurd HBP.out.2 h
        · exact absurd (HU.out.1 (by first | rfl | trivial)) h
      clear HT HU HBP
      go_wp2_with (first | refine wpList_load_var rfl _ rfl Tryz.underlying32 rfl rfl v8 (by kernel_rfl) ?_ | (refine wpList_store_var rfl _ _ rfl rfl rfl st.vr rfl (by kernel_rfl) (by simp [Value.oneCell']) ?_; intro W9 v9 o9))
      refine bodyPost_ret (results_var_tmp rfl rfl rfl v9 Tryz.underlying32 rfl (by kernel_rfl)) rfl ?_
      have hlow := st.hg
      exact ⟨none, 0, 0, none, 0, 0, rfl, (hx8.only o9 (by omega)).down (by omega), Only.below st.below o9 (Nat.le_refl _)⟩
    | false =>
      obtain ⟨rfl, rfl⟩ : er = 70 ∧ x = noEn := by
        rcases HT.out with ⟨_, _, h, _⟩ | ⟨_, h, h'⟩
        · have := HU.out.2 h; cases this
        · exact ⟨h, h'⟩
      clear HT HU HBP hx8 v8
      go_wp2_with (refine wpList_store_var rfl _ _ rfl rfl rfl st.vr rfl (by kernel_rfl) (by simp [Value.oneCell']) ?_; intro W9 v9 o9)
      refine bodyPost_ret (results_var_tmp rfl rfl rfl v9 Tryz.underlying32 rfl (by kernel_rfl)) rfl ?_
      exact ⟨none, 0, 0, none, 0, 0, rfl, noEn_own _ _, Only.below st.below o9 (Nat.le_refl _)⟩
  · have y0 : ((70 : Int) != 0) = true := by decide
    obtain ⟨rfl, rfl⟩ : er = 70 ∧ x = noEn := by
      rcases HT.out with ⟨h1, h2, _⟩ | ⟨_, h, h'⟩
      · rcases hbp with h | h
        · rw [h1] at h; cases h
        · exact absurd h2 h
      · exact ⟨h, h'⟩
    clear HT hx7 v7 hbp HER bq
    go_wp2_with (refine wpList_store_var rfl _ _ rfl rfl rfl st.vr rfl (by kernel_rfl) (by simp [Value.oneCell']) ?_; intro W9 v9 o9)
    refine bodyPost_ret (results_var_tmp rfl rfl rfl v9 Tryz.underlying32 rfl (by kernel_rfl)) rfl ?_
    exact ⟨none, 0, 0, none, 0, 0, rfl, noEn_own _ _, Only.below st.below o9 (Nat.le_refl _)⟩

set_option maxRecDepth 100000 in
set_option maxHeartbeats 2000000 in
theorem rread_state (s : ByteArray) (x : En) (er : Int) (p0 p : Nat) (b0 bad : Bool) (pid ep nx : Int) (m : Nat) (p1 p2 p3 p4 : Nat) (b1 b2 b3 b4 : Bool) (l : List Sn) (w : World) (hx : s.size ≤ 1000000) (h0 : NumIs s 0 false 0 127 6 p0 b0) (h1 : NumIs s p0 b0 0 8 pid p1 b1) (h2 : NumIs s p1 b1 0 100 ep p2 b2) (h3 : NumIs s p2 b2 0 1048576 nx p3 b3) (h4 : NumIs s p3 b3 0 3 m p4 b4) (h5 : SnsIs refLim s m p4 b4 l p bad) (hT : Told s x er (stateE ⟨pid, ep, nx, l⟩) p bad) :
    Calls Tryz.prog 19 #[.string s] w (EReadOwn w x er) := by
  have q0 : p0 ≤ s.size := h0.le (Nat.zero_le _)
  have q1 := h1.le q0
  have q2 := h2.le q1
  have q3 := h3.le q2
  have q4 := h4.le q3
  have hm3 := h4.in (by omega)
  have HL := Lib.hid (SnsIs.length _ h5)
  have H1 := Lib.hid h1
  have H2 := Lib.hid h2
  have H3 := Lib.hid h3
  have H4 := Lib.hid h4
  have H5 := Lib.hid h5
  clear h1 h2 h3 h4 h5
  have H0 := Lib.hid h0
  have HT := Lib.hid hT
  clear h0 hT
  obtain ⟨W0, hW0⟩ : ∃ W0, W0 = w.alloc (.cells #[.int .i8 0, .int .i64 0, .int .i64 0, .int .i64 0, .bool false, .slice none 0 0, .bool false, .int .i64 0, .int .i64 0, .int .i64 0, .int .i64 0, .int .i64 0, .string ⟨#[]⟩, .string ⟨#[]⟩, .int .i64 0, .int .i64 0, .int .i64 0, .slice none 0 0] 32) := ⟨_, rfl⟩
  have v0 : Var W0 w.heap.size 32 zeroE := by rw [hW0]; exact Var.new _ _ _
  have b0' : Below w.heap.size w W0 := by rw [hW0]; exact below_new _
  have HW0 := Lib.hid hW0
  clear hW0
  go_enter Tryz.func19, Tryz.ntmps19
  go_upto_region 1 with fail
  rw [← HW0.out]
  go_wp2_with fail
  refine (ref_new s W0).mono ?_
  rintro e W1 ⟨rfl, hr1, h1⟩
  obtain ⟨g, hgg⟩ : ∃ g, g = W0.heap.size := ⟨_, rfl⟩
  have hgw : w.heap.size < g := by rw [hgg]; exact v0.lt
  have v1 := v0.below h1 v0.lt
  have bb1 := b0'.trans (h1.mono b0'.size)
  rw [← hgg] at hr1 ⊢
  clear hgg v0 b0' h1 HW0
  go_wp2_with fail
  refine (ref_number_all g s 0 W1 false 0 127 6 p0 b0 H0.out hr1 hx (Nat.zero_le _)).mono ?_
  rintro e W2 ⟨rfl, hr2, k2⟩
  have v2 := v1.kept k2 (by simp; omega)
  have bb2 := bb1.trans (k2.below bb1.size (by simp; omega))
  have hg2 : g < W2.heap.size := Var.lt hr2
  obtain ⟨q, hq⟩ : ∃ q, q = W2.heap.size := ⟨_, rfl⟩
  have HQ := Lib.hid hq
  clear hq hr1 v1 bb1 k2 H0
  go_wp2_with (refine wpList_store_var rfl _ _ rfl rfl rfl (Var.new W2 #[.int .i8 0, .int .i64 0, .int .i64 0, .int .i64 0, .bool false, .slice none 0 0, .bool false, .int .i64 0, .int .i64 0, .int .i64 0, .int .i64 0, .int .i64 0, .string ⟨#[]⟩, .string ⟨#[]⟩, .int .i64 0, .int .i64 0, .int .i64 0, .slice none 0 0] 32) rfl (by kernel_rfl) (by simp [Value.oneCell']) ?_; rw [← HQ.out]; intro W3 v3 o3; have st : T1 w W3 g q s p0 b0 #[.int .i8 6, .int .i64 0, .int .i64 0, .int .i64 0, .bool false, .slice none 0 0, .bool false, .int .i64 0, .int .i64 0, .int .i64 0, .int .i64 0, .int .i64 0, .string ⟨#[]⟩, .string ⟨#[]⟩, .int .i64 0, .int .i64 0, .int .i64 0, .slice none 0 0] := T1.first hr2 v2 bb2 hgw HQ.out hg2 v3 _ o3; have e0 := st.ve.cell 0 rfl; have zq := st.ve.lt)
  clear hr2 v2 bb2 hg2 v3 o3 e0 zq
  refine (ref_number_all g s p0 _ b0 0 8 pid p1 b1 H1.out st.rd hx q0).mono ?_
  rintro e V3 ⟨rfl, hr, hk⟩
  have st := st.read hr hk
  have e0 := st.ve.cell 0 rfl
  have e14 := st.ve.cell 14 rfl
  have f14 := st.ve.free 14
  have zq := st.ve.lt
  have st := st.set 14 (.int .i64 pid)
  simp only [List.setIfInBounds_toArray, List.set_cons_zero, List.set_cons_succ] at st
  clear hr hk
  go_wp2_with fail
  clear e0 e14 f14 zq
  refine (ref_number_all g s p1 _ b1 0 100 ep p2 b2 H2.out st.rd hx q1).mono ?_
  rintro e V4 ⟨rfl, hr, hk⟩
  have st := st.read hr hk
  have e0 := st.ve.cell 0 rfl
  have e15 := st.ve.cell 15 rfl
  have f15 := st.ve.free 15
  have zq := st.ve.lt
  have st := st.set 15 (.int .i64 ep)
  simp only [List.setIfInBounds_toArray, List.set_cons_zero, List.set_cons_succ] at st
  clear hr hk
  go_wp2_with fail
  clear e0 e15 f15 zq
  refine (ref_number_all g s p2 _ b2 0 1048576 nx p3 b3 H3.out st.rd hx q2).mono ?_
  rintro e V5 ⟨rfl, hr, hk⟩
  have st := st.read hr hk
  have e0 := st.ve.cell 0 rfl
  have e16 := st.ve.cell 16 rfl
  have f16 := st.ve.free 16
  have zq := st.ve.lt
  have st := st.set 16 (.int .i64 nx)
  simp only [List.setIfInBounds_toArray, List.set_cons_zero, List.set_cons_succ] at st
  clear hr hk
  go_wp2_with fail
  clear e0 e16 f16 zq
  refine (ref_number_all g s p3 _ b3 0 3 m p4 b4 H4.out st.rd hx q3).mono ?_
  rintro e V9 ⟨rfl, hr, hk⟩
  have st := st.read hr hk
  clear hr hk
  go_wp2_with fail
  go_loopw [7] (fun i wr => ∃ (k pc cc : Nat) (bc : Bool) (Ac : Option Addr) (done rest : List Sn), k ≤ m ∧ i = .int .i64 k ∧ pc ≤ s.size ∧ T1 w wr g q s pc bc #[.int .i8 6, .int .i64 0, .int .i64 0, .int .i64 0, .bool false, .slice none 0 0, .bool false, .int .i64 0, .int .i64 0, .int .i64 0, .int .i64 0, .int .i64 0, .string ⟨#[]⟩, .string ⟨#[]⟩, .int .i64 pid, .int .i64 ep, .int .i64 nx, .slice Ac k cc] ∧ wr.ownsRow (q + 1) 75 3 (.slice Ac k cc) k (scells done) ∧ Hid (SnsIs refLim s (m - k) pc bc rest p bad) ∧ Hid (l = done ++ rest)) (fun i _ => m - (intOf i).toNat)
  case atStart => exact ⟨0, p4, 0, b4, none, [], l, by omega, rfl, q4, st, World.ownsRow_nil _ _ _ _, H5.out, rfl⟩
  case round =>
    clear st
    obtain ⟨k, pc, cc, bc, Ac, done, rest, hkm, rfl, hpc, st, hown, HR, HD⟩ := hrel
    by_cases hlt : k < m
    · obtain ⟨j, hj⟩ : ∃ j, m - k = j + 1 := ⟨m - k - 1, by omega⟩
      have hrec := HR.out
      rw [hj] at hrec
      obtain ⟨sq, pa, ba, cnt, pb, bb, o1, pd, bd, rest2, t1, t2, t3, hrr, hrest⟩ := hrec
      have T1' := Lib.hid t1
      have T2' := Lib.hid t2
      have T3' := Lib.hid t3
      have HREST : Hid (SnsIs refLim s (m - (k + 1)) pd bd rest2 p bad) := by show SnsIs _ _ _ _ _ _ _ _; rw [show m - (k + 1) = j by omega]; exact hrest
      have HD2 : Hid (l = (done ++ [⟨sq, cnt, o1 - 1⟩]) ++ rest2) := by show _ = _; rw [HD.out, hrr]; simp
      have hpa := t1.le hpc
      have hpb := t2.le hpa
      have hpd := t3.le hpb
      have ho1 := t3.in (by decide)
      simp only [refLim] at ho1
      clear hrest t1 t2 t3 hrr hj HR HD
      go_wp2_with fail
      refine (ref_number_all g s pc _ bc 0 1048576 sq pa ba T1'.out st.rd hx hpc).mono ?_
      rintro e Va ⟨rfl, hr, hk⟩
      have hgq : g < q := st.hg.2
      have st := st.read hr hk
      have hown := own_kept hown hk (by simp; omega)
      clear hr hk
      go_wp2_with fail
      refine (ref_number_all g s pa _ ba 0 4 cnt pb bb T2'.out st.rd hx hpa).mono ?_
      rintro e Vb ⟨rfl, hr, hk⟩
      have st := st.read hr hk
      have hown := own_kept hown hk (by simp; omega)
      clear hr hk
      go_wp2_with fail
      refine (ref_number_all g s pb _ bb 0 1048577 o1 pd bd T3'.out st.rd hx hpb).mono ?_
      rintro e Vc ⟨rfl, hr, hk⟩
      have st := st.read hr hk
      have hown := own_kept hown hk (by simp; omega)
      have e17 := st.ve.cell 17 rfl
      have zq := st.ve.lt
      have hsy := (show Seen (Vc.alloc (.cells #[.int .i64 sq, .int .i64 cnt, .int .i64 (o1 - 1)] 75)) (Vc.heap.size + 1) (some ⟨Vc.heap.size, 0, none⟩) (scell ⟨sq, cnt, o1 - 1⟩) from Seen.new Vc (scell ⟨sq, cnt, o1 - 1⟩) 75)
      clear hr hk
      have hown' := own_next hown (below_new (w := Vc) (.cells #[.int .i64 sq, .int .i64 cnt, .int .i64 (o1 - 1)] 75))
      have st' := st.next (below_new (w := Vc) (.cells #[.int .i64 sq, .int .i64 cnt, .int .i64 (o1 - 1)] 75))
      go_wp2_with (at_builtin; refine wpList_append_one rfl (.tmp 115) (.tmp 121) rfl Tryz.underlying28 sn_info0 rfl (by omega) (by omega) (base := q + 1) (n := k) (c := 1) (B := Vc.heap.size + 1) (v := .slice Ac k cc) (xs := scells done) (news := scell ⟨sq, cnt, o1 - 1⟩) (A := some ⟨Vc.heap.size, 0, none⟩) rfl rfl hown' rfl (fun u hu => scells_one [_] u (by simpa [scells] using hu)) hsy st'.ve.lt (by omega) ?_; intro A9 c9 W9 hown9 hb9; have v9 := st'.ve.below hb9 (Nat.lt_succ_self q); have i17 := v9.cell 17 rfl; have i18 := v9.free 17; have i19 := v9.lt)
      have st9 := (st'.low hb9 st'.ve.lt).set 17 (.slice A9 (k + 1) c9)
      have hown10 := own_set (p := ⟨q, 17, none⟩) hown9 (Nat.lt_succ_self q) (.slice A9 (k + 1) c9)
      simp only [List.setIfInBounds_toArray, List.set_cons_zero, List.set_cons_succ] at st9
      rw [show scells done ++ scell ⟨sq, cnt, o1 - 1⟩ = scells (done ++ [⟨sq, cnt, o1 - 1⟩]) by rw [scells_append]; simp [scells]] at hown10
      clear st st' hown hown' hown9 hb9 v9 i17 i18 i19 e17 zq hsy
      go_wp2
      go_roundw
      case rel => exact ⟨k + 1, pd, c9, bd, A9, done ++ [⟨sq, cnt, o1 - 1⟩], rest2, by omega, by go_num, hpd, st9, hown10, HREST, HD2⟩
      case measure => simp [intOf]; omega
    · have hkm2 : k = m := by omega
      subst hkm2
      have hrec := HR.out
      rw [Nat.sub_self] at hrec
      obtain ⟨rfl, rfl, rfl⟩ := hrec
      have HD3 : Hid (l = done) := by show _ = _; rw [HD.out]; simp
      clear HR HD
      have hgq := st.hg.2
      have ho : EOwn (g + 1) wr (stateE ⟨pid, ep, nx, l⟩) none 0 0 Ac k cc := ⟨World.ownsRow_nil _ _ _ _, by rw [HD3.out]; exact own_down hown (by omega), rfl, HL.out, by omega, by simp [stateE, noBt], ⟨by simp [stateE, noRw, ByteArray.size], by simp [stateE, noRw, ByteArray.size]⟩⟩
      clear hown
      go_upto_region 38 with fail
      refine wp_at (C := fun W => T1 w W g q s p bad (evals (stateE ⟨pid, ep, nx, l⟩) none 0 0 Ac k cc) ∧ EOwn (g + 1) W (stateE ⟨pid, ep, nx, l⟩) none 0 0 Ac k cc) ⟨st, ho⟩ ?_
      clear st ho
      rintro W6 ⟨st, ho⟩
      have v6 := st.ve
      simp only [evals, stateE, noRw, noBt] at v6
      obtain ⟨er0, her⟩ := endIs_of s p bad
      have HER := Lib.hid her
      clear her
      go_wp2_with fail
      refine (ref_end g s p bad er0 W6 HER.out st.rd).mono ?_
      rintro e W7 ⟨rfl, nq, rfl⟩
      have bq : Below W6.heap.size W6 (W6.drewN nq) := (Below.refl _ _).drewN' nq
      have st := st.next bq
      have hx7 := ho.next bq
      have v7 := v6.drewN nq
      clear ho v6
      generalize W6.drewN nq = W7 at bq st hx7 v7 ⊢
      rcases HER.out with ⟨hbad, hps, rfl⟩ | ⟨hbp, rfl⟩
      · have y0 : ((0 : Int) != 0) = false := by decide
        have HBP : Hid (bad = false ∧ p = s.size) := ⟨hbad, hps⟩
        clear hbad hps HER
        obtain ⟨u, hu⟩ := iff_of (En.Good (stateE ⟨pid, ep, nx, l⟩))
        have HU := Lib.hid hu
        clear hu
        go_wp2_with (refine wpList_load_want (by rfl) _ rfl Tryz.underlying32 rfl rfl v7 (by kernel_rfl) ?_)
        refine (ref_emay_any (stateE ⟨pid, ep, nx, l⟩) none Ac 0 0 k cc W7.heap.size u W7 hx7.ein (Nat.le_refl _) HU.out).mono ?_
        rintro e W8 ⟨rfl, h8⟩
        have st := st.next h8
        have v8 := v7.below h8 v7.lt
        have hx8 := hx7.next h8
        clear v7 hx7 bq
        cases u with
        | true =>
          obtain ⟨rfl, rfl⟩ : er = 0 ∧ x = stateE ⟨pid, ep, nx, l⟩ := by
            rcases HT.out with ⟨_, _, _, h, h'⟩ | ⟨h | h | h, _⟩
            · exact ⟨h, h'⟩
            · rw [HBP.out.1] at h; cases h
            · exact absurd HBP.out.2 h
            · exact absurd (HU.out.1 (by first | rfl | trivial)) h
          clear HT HU HBP
          go_wp2_with (first | refine wpList_load_var rfl _ rfl Tryz.underlying32 rfl rfl v8 (by kernel_rfl) ?_ | (refine wpList_store_var rfl _ _ rfl rfl rfl st.vr rfl (by kernel_rfl) (by simp [Value.oneCell']) ?_; intro W9 v9 o9))
          refine bodyPost_ret (results_var_tmp rfl rfl rfl v9 Tryz.underlying32 rfl (by kernel_rfl)) rfl ?_
          have hlow := st.hg
          exact ⟨none, 0, 0, Ac, k, cc, rfl, (hx8.only o9 (by omega)).down (by omega), Only.below st.below o9 (Nat.le_refl _)⟩
        | false =>
          obtain ⟨rfl, rfl⟩ : er = 70 ∧ x = noEn := by
            rcases HT.out with ⟨_, _, h, _⟩ | ⟨_, h, h'⟩
            · have := HU.out.2 h; cases this
            · exact ⟨h, h'⟩
          clear HT HU HBP hx8 v8
          go_wp2_with (refine wpList_store_var rfl _ _ rfl rfl rfl st.vr rfl (by kernel_rfl) (by simp [Value.oneCell']) ?_; intro W9 v9 o9)
          refine bodyPost_ret (results_var_tmp rfl rfl rfl v9 Tryz.underlying32 rfl (by kernel_rfl)) rfl ?_
          exact ⟨none, 0, 0, none, 0, 0, rfl, noEn_own _ _, Only.below st.below o9 (Nat.le_refl _)⟩
      · have y0 : ((70 : Int) != 0) = true := by decide
        obtain ⟨rfl, rfl⟩ : er = 70 ∧ x = noEn := by
          rcases HT.out with ⟨h1, h2, _⟩ | ⟨_, h, h'⟩
          · rcases hbp with h | h
            · rw [h1] at h; cases h
            · exact absurd h2 h
          · exact ⟨h, h'⟩
        clear HT hx7 v7 hbp HER bq
        go_wp2_with (refine wpList_store_var rfl _ _ rfl rfl rfl st.vr rfl (by kernel_rfl) (by simp [Value.oneCell']) ?_; intro W9 v9 o9)
        refine bodyPost_ret (results_var_tmp rfl rfl rfl v9 Tryz.underlying32 rfl (by kernel_rfl)) rfl ?_
        exact ⟨none, 0, 0, none, 0, 0, rfl, noEn_own _ _, Only.below st.below o9 (Nat.le_refl _)⟩

set_option maxRecDepth 100000 in
set_option maxHeartbeats 2000000 in
theorem rread_other (s : ByteArray) (x : En) (er : Int) (p0 p : Nat) (b0 bad : Bool) (k : Nat) (hk7 : 7 ≤ k) (hk : k ≤ 127) (w : World) (hx : s.size ≤ 1000000) (h0 : NumIs s 0 false 0 127 k p0 b0) (h1 : p = p0 ∧ bad = b0) (hT : Told s x er ((⟨k, noBt, false, 0, 0, noRw, noPd⟩ : En)) p bad) :
    Calls Tryz.prog 19 #[.string s] w (EReadOwn w x er) := by
  have q0 : p0 ≤ s.size := h0.le (Nat.zero_le _)
  obtain ⟨rfl, rfl⟩ := h1
  have y1 : ((k : Int) == 0) = false := by rw [beq_eq_false_iff_ne]; omega
  have y2 : ((k : Int) == 1) = false := by rw [beq_eq_false_iff_ne]; omega
  have y3 : ((k : Int) == 2) = false := by rw [beq_eq_false_iff_ne]; omega
  have y4 : ((k : Int) == 3) = false := by rw [beq_eq_false_iff_ne]; omega
  have y5 : ((k : Int) == 4) = false := by rw [beq_eq_false_iff_ne]; omega
  have y6 : ((k : Int) == 5) = false := by rw [beq_eq_false_iff_ne]; omega
  have y7 : ((k : Int) == 6) = false := by rw [beq_eq_false_iff_ne]; omega
  have H0 := Lib.hid h0
  have HT := Lib.hid hT
  clear h0 hT
  obtain ⟨W0, hW0⟩ : ∃ W0, W0 = w.alloc (.cells #[.int .i8 0, .int .i64 0, .int .i64 0, .int .i64 0, .bool false, .slice none 0 0, .bool false, .int .i64 0, .int .i64 0, .int .i64 0, .int .i64 0, .int .i64 0, .string ⟨#[]⟩, .string ⟨#[]⟩, .int .i64 0, .int .i64 0, .int .i64 0, .slice none 0 0] 32) := ⟨_, rfl⟩
  have v0 : Var W0 w.heap.size 32 zeroE := by rw [hW0]; exact Var.new _ _ _
  have b0' : Below w.heap.size w W0 := by rw [hW0]; exact below_new _
  have HW0 := Lib.hid hW0
  clear hW0
  go_enter Tryz.func19, Tryz.ntmps19
  go_upto_region 1 with fail
  rw [← HW0.out]
  go_wp2_with fail
  refine (ref_new s W0).mono ?_
  rintro e W1 ⟨rfl, hr1, h1⟩
  obtain ⟨g, hgg⟩ : ∃ g, g = W0.heap.size := ⟨_, rfl⟩
  have hgw : w.heap.size < g := by rw [hgg]; exact v0.lt
  have v1 := v0.below h1 v0.lt
  have bb1 := b0'.trans (h1.mono b0'.size)
  rw [← hgg] at hr1 ⊢
  clear hgg v0 b0' h1 HW0
  go_wp2_with fail
  refine (ref_number_all g s 0 W1 false 0 127 k p bad H0.out hr1 hx (Nat.zero_le _)).mono ?_
  rintro e W2 ⟨rfl, hr2, k2⟩
  have v2 := v1.kept k2 (by simp; omega)
  have bb2 := bb1.trans (k2.below bb1.size (by simp; omega))
  have hg2 : g < W2.heap.size := Var.lt hr2
  obtain ⟨q, hq⟩ : ∃ q, q = W2.heap.size := ⟨_, rfl⟩
  have HQ := Lib.hid hq
  clear hq hr1 v1 bb1 k2 H0
  go_wp2_with (refine wpList_store_var rfl _ _ rfl rfl rfl (Var.new W2 #[.int .i8 0, .int .i64 0, .int .i64 0, .int .i64 0, .bool false, .slice none 0 0, .bool false, .int .i64 0, .int .i64 0, .int .i64 0, .int .i64 0, .int .i64 0, .string ⟨#[]⟩, .string ⟨#[]⟩, .int .i64 0, .int .i64 0, .int .i64 0, .slice none 0 0] 32) rfl (by kernel_rfl) (by simp [Value.oneCell']) ?_; rw [← HQ.out]; intro W3 v3 o3; have st : T1 w W3 g q s p bad #[.int .i8 k, .int .i64 0, .int .i64 0, .int .i64 0, .bool false, .slice none 0 0, .bool false, .int .i64 0, .int .i64 0, .int .i64 0, .int .i64 0, .int .i64 0, .string ⟨#[]⟩, .string ⟨#[]⟩, .int .i64 0, .int .i64 0, .int .i64 0, .slice none 0 0] := T1.first hr2 v2 bb2 hgw HQ.out hg2 v3 _ o3; have e0 := st.ve.cell 0 rfl; have zq := st.ve.lt)
  clear hr2 v2 bb2 hg2 v3 o3 e0 zq
  have ho := fun W => bare_in W (g + 1) (x := (⟨k, noBt, false, 0, 0, noRw, noPd⟩ : En)) rfl rfl ⟨by simp [noRw, ByteArray.size], by simp [noRw, ByteArray.size]⟩
  have ho := ho W3
  obtain ⟨W6, hW6⟩ : ∃ W6, W6 = W3 := ⟨_, rfl⟩
  subst hW6
  have v6 := st.ve
  obtain ⟨er0, her⟩ := endIs_of s p bad
  have HER := Lib.hid her
  clear her
  refine (ref_end g s p bad er0 W6 HER.out st.rd).mono ?_
  rintro e W7 ⟨rfl, nq, rfl⟩
  have bq : Below W6.heap.size W6 (W6.drewN nq) := (Below.refl _ _).drewN' nq
  have st := st.next bq
  have hx7 := ho.next bq
  have v7 := v6.drewN nq
  clear ho v6
  generalize W6.drewN nq = W7 at bq st hx7 v7 ⊢
  rcases HER.out with ⟨hbad, hps, rfl⟩ | ⟨hbp, rfl⟩
  · have y0 : ((0 : Int) != 0) = false := by decide
    have HBP : Hid (bad = false ∧ p = s.size) := ⟨hbad, hps⟩
    clear hbad hps HER
    obtain ⟨u, hu⟩ := iff_of (En.Good ((⟨k, noBt, false, 0, 0, noRw, noPd⟩ : En)))
    have HU := Lib.hid hu
    clear hu
    go_wp2_with (refine wpList_load_want (by rfl) _ rfl Tryz.underlying32 rfl rfl v7 (by kernel_rfl) ?_)
    refine (ref_emay_any ((⟨k, noBt, false, 0, 0, noRw, noPd⟩ : En)) none none 0 0 0 0 W7.heap.size u W7 hx7.ein (Nat.le_refl _) HU.out).mono ?_
    rintro e W8 ⟨rfl, h8⟩
    have st := st.next h8
    have v8 := v7.below h8 v7.lt
    have hx8 := hx7.next h8
    clear v7 hx7 bq
    cases u with
    | true =>
      obtain ⟨rfl, rfl⟩ : er = 0 ∧ x = (⟨k, noBt, false, 0, 0, noRw, noPd⟩ : En) := by
        rcases HT.out with ⟨_, _, _, h, h'⟩ | ⟨h | h | h, _⟩
        · exact ⟨h, h'⟩
        · rw [HBP.out.1] at h; cases h
        · exact absurd HBP.out.2 h
        · exact absurd (HU.out.1 (by first | rfl | trivial)) h
      clear HT HU HBP
      go_wp2_with (first | refine wpList_load_var rfl _ rfl Tryz.underlying32 rfl rfl v8 (by kernel_rfl) ?_ | (refine wpList_store_var rfl _ _ rfl rfl rfl st.vr rfl (by kernel_rfl) (by simp [Value.oneCell']) ?_; intro W9 v9 o9))
      refine bodyPost_ret (results_var_tmp rfl rfl rfl v9 Tryz.underlying32 rfl (by kernel_rfl)) rfl ?_
      have hlow := st.hg
      exact ⟨none, 0, 0, none, 0, 0, rfl, (hx8.only o9 (by omega)).down (by omega), Only.below st.below o9 (Nat.le_refl _)⟩
    | false =>
      obtain ⟨rfl, rfl⟩ : er = 70 ∧ x = noEn := by
        rcases HT.out with ⟨_, _, h, _⟩ | ⟨_, h, h'⟩
        · have := HU.out.2 h; cases this
        · exact ⟨h, h'⟩
      clear HT HU HBP hx8 v8
      go_wp2_with (refine wpList_store_var rfl _ _ rfl rfl rfl st.vr rfl (by kernel_rfl) (by simp [Value.oneCell']) ?_; intro W9 v9 o9)
      refine bodyPost_ret (results_var_tmp rfl rfl rfl v9 Tryz.underlying32 rfl (by kernel_rfl)) rfl ?_
      exact ⟨none, 0, 0, none, 0, 0, rfl, noEn_own _ _, Only.below st.below o9 (Nat.le_refl _)⟩
  · have y0 : ((70 : Int) != 0) = true := by decide
    obtain ⟨rfl, rfl⟩ : er = 70 ∧ x = noEn := by
      rcases HT.out with ⟨h1, h2, _⟩ | ⟨_, h, h'⟩
      · rcases hbp with h | h
        · rw [h1] at h; cases h
        · exact absurd h2 h
      · exact ⟨h, h'⟩
    clear HT hx7 v7 hbp HER bq
    go_wp2_with (refine wpList_store_var rfl _ _ rfl rfl rfl st.vr rfl (by kernel_rfl) (by simp [Value.oneCell']) ?_; intro W9 v9 o9)
    refine bodyPost_ret (results_var_tmp rfl rfl rfl v9 Tryz.underlying32 rfl (by kernel_rfl)) rfl ?_
    exact ⟨none, 0, 0, none, 0, 0, rfl, noEn_own _ _, Only.below st.below o9 (Nat.le_refl _)⟩

set_option maxRecDepth 100000 in
theorem ref_eread_own (s : ByteArray) (x : En) (er : Int) (w : World) (h : EReadIs s x er) (hx : s.size ≤ 1000000) : Calls Tryz.prog 19 #[.string s] w (EReadOwn w x er) := by
  obtain ⟨k, p0, b0, y, p, bad, hk, h0, hb, hT⟩ := h.raw refLim_ok (K := 127) (by omega)
  match k, hb with
  | 0, hb =>
    obtain ⟨b, h1, rfl⟩ := hb
    exact rread_data s x er p0 p b0 bad b w hx h0 h1 hT
  | 1, hb =>
    obtain ⟨pid, p1, b1, ep, p2, b2, yes, h1, h2, h3, rfl⟩ := hb
    exact rread_mark s x er p0 p b0 bad pid ep p1 p2 b1 b2 yes w hx h0 h1 h2 h3 hT
  | 2, hb =>
    obtain ⟨off, h1, rfl⟩ := hb
    exact rread_cut s x er p0 p b0 bad off w hx h0 h1 hT
  | 3, hb =>
    obtain ⟨b, p1, b1, yes, p2, b2, h1, h2, ⟨rfl, nx, h3, rfl⟩ | ⟨rfl, rfl, rfl, rfl⟩⟩ := hb
    · exact rread_copy s x er p0 p b0 bad b p1 p2 b1 b2 nx w hx h0 h1 h2 h3 hT
    · exact rread_copyno s x er p0 p b0 bad b p1 b1 w hx h0 h1 h2 hT
  | 4, hb =>
    obtain ⟨pid, p1, b1, ep, p2, b2, nx, h1, h2, h3, rfl⟩ := hb
    exact rread_drop s x er p0 p b0 bad pid ep nx p1 p2 b1 b2 w hx h0 h1 h2 h3 hT
  | 5, hb =>
    obtain ⟨pid, p1, b1, sq, p2, b2, k, p3, b3, v, h1, h2, h3, h4, rfl⟩ := hb
    exact rread_row s x er p0 p b0 bad pid sq k v p1 p2 p3 b1 b2 b3 w hx h0 h1 h2 h3 h4 hT
  | 6, hb =>
    obtain ⟨pid, p1, b1, ep, p2, b2, nx, p3, b3, n, p4, b4, l, h1, h2, h3, h4, h5, rfl⟩ := hb
    have hn0 := h4.in (by omega)
    obtain ⟨m, rfl⟩ : ∃ m : Nat, n = m := ⟨n.toNat, by omega⟩
    rw [Int.toNat_natCast] at h5
    exact rread_state s x er p0 p b0 bad pid ep nx m p1 p2 p3 p4 b1 b2 b3 b4 l w hx h0 h1 h2 h3 h4 h5 hT
  | k + 7, hb =>
    obtain ⟨rfl, rfl, rfl⟩ := hb
    exact rread_other s x er _ _ _ _ (k + 7) (by omega) (by omega) w hx h0 ⟨rfl, rfl⟩ hT
theorem ref_eread_any (s : ByteArray) (x : En) (er : Int) (w : World) (h : EReadIs s x er) (hx : s.size ≤ 1000000) : Calls Tryz.prog 19 #[.string s] w (EReadRes w x er) := (ref_eread_own s x er w h hx).mono fun _ _ h => h.res
end Go.Proofs.YtchpemgamgcbkaaGreat
