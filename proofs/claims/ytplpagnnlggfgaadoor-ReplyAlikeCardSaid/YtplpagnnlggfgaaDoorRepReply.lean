/-
  The contract of a walk's reply, whatever the pass. Conditions: those that the theorem names.
-/
import Derived.Test.YtplpagnnlggfgaaDoorRepFields
import Derived.Test.YtplpagnnlggfgaaDoorRepRows
import Derived.Test.YtplpagnnlggfgaaDoorRepOwn
namespace Go.Proofs.YtplpagnnlggfgaaDoor
open Go.RowKit

/-- An element of an array that is no variable, its run known by an equation. -/
theorem wpList_index_run {P : Program} {w : World} {ops : Array Oper} {rest : List Oper} {o : Oper} {a : Act} {Q : Exit → Act → World → Prop} (hgd : o.guard = none) (t : TypeId) (x ix : Operand) (ho : o.op = .index t x ix) {v u v' : Value} (hx : a.eval x = v) (hi : a.eval ix = u)
    (hr : (Instr.index t v u).run P w = .ok v' w) (h : wpList P ops Q rest (a.put o.dst v') w) : wpList P ops Q (o :: rest) a w := by
  refine wpList_plain hgd fun K hK => ?_
  unfold Oper.wp execOp
  simp only [ho, Sem.run_bind, Sem.run_pure, Result.andThen_ok, hx, hi, hr]
  exact hK _ _ h
theorem step_0 (W : World) : (Instr.index 76 (.agg stepsV) (.int .i64 0)).run Tryd.prog W = .ok (.func (.func 36) #[] #[]) W := by kernel_rfl
theorem step_1 (W : World) : (Instr.index 76 (.agg stepsV) (.int .i64 1)).run Tryd.prog W = .ok (.func (.func 37) #[] #[]) W := by kernel_rfl
theorem step_2 (W : World) : (Instr.index 76 (.agg stepsV) (.int .i64 2)).run Tryd.prog W = .ok (.func (.func 38) #[] #[]) W := by kernel_rfl
theorem step_3 (W : World) : (Instr.index 76 (.agg stepsV) (.int .i64 3)).run Tryd.prog W = .ok (.func (.func 39) #[] #[]) W := by kernel_rfl
/-- What a walk's reply hands back. -/
def RyRes {P : Pass} (M : PIn P) (W : Nat) (wr : Int) (fr : Rp) (Af : Option Addr) (nf cf : Nat) (x : Rp × Ws P) (w : World) (e : Ending) (w' : World) : Prop :=
  e = .returned (.tuple #[]) ∧ ∃ At nt ct, Wk M w' W wr 2 (wcells (.iface M.T M.v) wr fr Af nf cf x.1 At nt ct) x.2 ∧ w'.ownsRow (W + 1) 37 5 (.slice At nt ct) nt (rwcells x.1.rows) ∧ x.1.rows.length = nt ∧ Tn [M.g, W] w w'
/-- A walk that has got past k fields. -/
structure Ry {P : Pass} (M : PIn P) (W : Nat) (wr : Int) (fr : Rp) (Af : Option Addr) (nf cf : Nat) (hf : Nat → Bool) (x0 : Rp × Ws P) (bh : Nat) (hv : Array Value) (w wv : World) (k : Nat) (At : Option Addr) (nt ct : Nat) (m : Nat) : Prop where
  wk : Wk M wv W wr m (wcells (.iface M.T M.v) wr fr Af nf cf (wgos hf fr x0 k).1 At nt ct) (wgos hf fr x0 k).2
  one : k < 4 → m = 1
  two : m = 1 ∨ m = 2
  own : wv.ownsRow (W + 1) 37 5 (.slice At nt ct) nt (rwcells (wgos hf fr x0 k).1.rows)
  len : (wgos hf fr x0 k).1.rows.length = nt
  nil : k < 4 → At = none ∧ nt = 0 ∧ ct = 0
  has : Var wv bh 73 hv
  tn : Tn [M.g, W] w wv
theorem wgos_rows {P : Pass} (h : Nat → Bool) (fr : Rp) (x : Rp × Ws P) : ∀ k, k < 4 → (wgos h fr x k).1.rows = x.1.rows
  | 0, _ => rfl
  | k + 1, hk => ((wgo_low h fr k (wgos h fr x k) (by omega)).2.2.2.2.2.2 (by omega)).trans (wgos_rows h fr x k (by omega))
theorem wgo_skip {P : Pass} {h : Nat → Bool} {fr : Rp} {k : Nat} {x : Rp × Ws P} (hc : h k = false ∨ x.2.bad = true) : wgo h fr k x = x := by
  unfold wgo
  rw [if_neg]
  rintro ⟨h1, h2⟩
  rcases hc with hc | hc
  · rw [hc] at h1; cases h1
  · rw [hc] at h2; cases h2
theorem wgo_do {P : Pass} {h : Nat → Bool} {fr : Rp} {k : Nat} {x : Rp × Ws P} (h1 : h k = true) (h2 : x.2.bad = false) : wgo h fr k x = wstep fr k x := by
  unfold wgo
  rw [if_pos ⟨h1, h2⟩]

section
variable {P : Pass} {M : PIn P} {W : Nat} {wr : Int} {fr : Rp} {Af : Option Addr} {nf cf : Nat} {hf : Nat → Bool} {x0 : Rp × Ws P} {bh : Nat} {hv : Array Value} {w wv w9 : World} {k : Nat} {At : Option Addr} {nt ct m : Nat}
theorem Ry.skip (R : Ry M W wr fr Af nf cf hf x0 bh hv w wv k At nt ct m) (hk : k < 4) (hc : hf k = false ∨ (wgos hf fr x0 k).2.bad = true) : Ry M W wr fr Af nf cf hf x0 bh hv w wv (k + 1) At nt ct m := by
  have e : wgos hf fr x0 (k + 1) = wgos hf fr x0 k := wgo_skip hc
  exact ⟨by rw [e]; exact R.wk, fun _ => R.one hk, R.two, by rw [e]; exact R.own, by rw [e]; exact R.len, fun _ => R.nil hk, R.has, R.tn⟩
theorem Ry.did (R : Ry M W wr fr Af nf cf hf x0 bh hv w wv k none 0 0 1) (hk : k < 3) (h1 : hf k = true) (h2 : (wgos hf fr x0 k).2.bad = false) (k9 : Wk M w9 W wr 1 (wcells (.iface M.T M.v) wr fr Af nf cf (wstep fr k (wgos hf fr x0 k)).1 none 0 0) (wstep fr k (wgos hf fr x0 k)).2) (hW : M.g < W) (hb : W < bh) (t9 : Tn [M.g, W] wv w9) :
    Ry M W wr fr Af nf cf hf x0 bh hv w w9 (k + 1) none 0 0 1 := by
  have e : wgos hf fr x0 (k + 1) = wstep fr k (wgos hf fr x0 k) := wgo_do h1 h2
  have hr : (wstep fr k (wgos hf fr x0 k)).1.rows = [] := by
    have := (wstep_low fr k (wgos hf fr x0 k) (by omega)).2.2.2.2.2.2 (by omega)
    rw [this]
    exact List.eq_nil_of_length_eq_zero R.len
  exact ⟨by rw [e]; exact k9, fun _ => rfl, .inl rfl, by rw [e, hr]; exact World.ownsRow_nil _ _ _ _, by rw [e, hr]; rfl, fun _ => ⟨rfl, rfl, rfl⟩, R.has.tn t9 (by simp; omega) (by decide), R.tn.trans t9⟩
theorem Ry.rowsd (R : Ry M W wr fr Af nf cf hf x0 bh hv w wv 3 none 0 0 1) (h1 : hf 3 = true) (h2 : (wgos hf fr x0 3).2.bad = false) (k9 : Wk M w9 W wr 2 ((wcells (.iface M.T M.v) wr fr Af nf cf (wgos hf fr x0 3).1 none 0 0).setIfInBounds 13 (.slice At nt ct)) (wrows (wgos hf fr x0 3).2 fr.rows).2)
    (o9 : w9.ownsRow (W + 1) 37 5 (.slice At nt ct) nt (rwcells (wrows (wgos hf fr x0 3).2 fr.rows).1)) (l9 : (wrows (wgos hf fr x0 3).2 fr.rows).1.length = nt) (hW : M.g < W) (hb : W < bh) (t9 : Tn [M.g, W] wv w9) :
    Ry M W wr fr Af nf cf hf x0 bh hv w w9 4 At nt ct 2 := by
  have e : wgos hf fr x0 4 = wstep fr 3 (wgos hf fr x0 3) := wgo_do h1 h2
  exact ⟨by rw [e]; exact k9, fun h => by omega, .inr rfl, by rw [e]; exact o9, by rw [e]; exact l9, fun h => by omega, R.has.tn t9 (by simp; omega) (by decide), R.tn.trans t9⟩
end

set_option maxRecDepth 100000 in
set_option maxHeartbeats 2000000 in
theorem reply_any {P : Pass} (M : PIn P) (W : Nat) (wn : Int) (fr : Rp) (Af : Option Addr) (nf cf : Nat) (s : Ws P) (w : World) (h : Wk M w W wn 1 (wcells (.iface M.T M.v) wn fr Af nf cf noRp none 0 0) s) (hs : P.sz s.st ≤ 1000) (hfit : RpFit fr)
    (hf : fr.rows.length = nf) (hseen : Seen w M.g Af (rwcells fr.rows)) (hmax : nf ≤ 9223372036854775807) (hrows : ∀ x ∈ fr.rows, RwFit x) :
    Calls Tryd.prog 19 #[.pointer (some ⟨W, 0, none⟩)] w (RyRes M W wn fr Af nf cf (wreply s fr) w) := by
  have c2 : w.cell? ⟨W, 2, none⟩ = some (.int .i8 fr.kind) := h.cell 2 rfl
  have hl' := h.lt'
  have hl := h.lt
  have hgw : M.g < w.heap.size := by omega
  obtain ⟨k1, s1, hk1⟩ : ∃ k1 s1, wnum s fr.kind 0 9 = (k1, s1) := ⟨_, _, rfl⟩
  obtain ⟨e1, s2, he1⟩ : ∃ e1 s2, wnum s1 fr.e 0 400 = (e1, s2) := ⟨_, _, rfl⟩
  have hC := num_i8 M W wn _ s ⟨#[75, 105, 110, 100]⟩ fr.kind w h (by omega) hfit.kind.1 hfit.kind.2
  have hi1 := wnum_in (s := s) (n := fr.kind) (lo := 0) (hi := 9) (by omega) (by omega) (by omega)
  have hi2 := wnum_in (s := s1) (n := fr.e) (lo := 0) (hi := 400) (by omega) (by omega) (by omega)
  have hz1 := wnum_sz (s := s) (n := fr.kind) (lo := 0) (hi := 9)
  have hz2 := wnum_sz (s := s1) (n := fr.e) (lo := 0) (hi := 400)
  rw [hk1] at hC hi1 hz1
  rw [he1] at hi2 hz2
  simp only at hC hi1 hz1 hi2 hz2
  have hs1 : P.sz s1.st ≤ 700000 := by omega
  have hs2 : P.sz s2.st ≤ 1020 := by omega
  have HRES : Hid (wreply s fr = wgos (hasF k1 e1) fr (⟨k1, e1, 0, 0, 0, []⟩, s2) 4) := by show _ = _; simp only [wreply, whead, hk1, he1]
  obtain ⟨hi11, hi12⟩ := hi1
  obtain ⟨hi21, hi22⟩ := hi2
  have HC := Lib.hid hC
  have HE1 := Lib.hid he1
  have HF := Lib.hid hf
  have HFIT := Lib.hid hfit
  have HROWS := Lib.hid hrows
  clear hC hk1 he1 hz1 hz2 hs h hf hfit hrows
  go_enter Tryd.func19, Tryd.ntmps19
  go_wp2_with fail
  refine HC.out.mono ?_
  rintro e w1 ⟨rfl, q1, t1⟩
  have d1 := q1.cell 8 rfl
  have f1 := q1.free 8
  have z1 := q1.lt'
  clear HC c2 hl'
  go_upto_region 1 with fail
  obtain ⟨W1, hW1⟩ : ∃ W1, W1 = w1.setCell ⟨W, 8, none⟩ (.int .i8 k1) := ⟨_, rfl⟩
  have q2 : Wk M W1 W wn 1 (wcells (.iface M.T M.v) wn fr Af nf cf { noRp with kind := k1 } none 0 0) s1 := by rw [hW1]; exact q1.put 8 (by omega) (by omega) (.int .i8 k1)
  have t2 : Tn [M.g, W] w W1 := by rw [hW1]; exact t1.setCell (.inl (by simp)) _
  rw [← hW1]
  clear hW1 q1 t1 d1 f1 z1
  have c3 : W1.cell? ⟨W, 3, none⟩ = some (.int .i64 fr.e) := q2.cell 3 rfl
  have z1 := q2.lt'
  have hC2 := num_err M W wn _ s1 ⟨#[69]⟩ fr.e W1 q2 hs1 HFIT.out.e.1 HFIT.out.e.2
  rw [HE1.out] at hC2
  simp only at hC2
  have HC2 := Lib.hid hC2
  clear hC2
  go_wp2_with fail
  refine HC2.out.mono ?_
  rintro e w2 ⟨rfl, q3, t3⟩
  have d1 := q3.cell 9 rfl
  have f1 := q3.free 9
  clear HC2 c3 z1 q2
  have z1 := q3.lt'
  go_upto_region 2 with fail
  obtain ⟨W2, hW2⟩ : ∃ W2, W2 = w2.setCell ⟨W, 9, none⟩ (.int .i64 e1) := ⟨_, rfl⟩
  have q4 : Wk M W2 W wn 1 (wcells (.iface M.T M.v) wn fr Af nf cf ⟨k1, e1, 0, 0, 0, []⟩ none 0 0) s2 := by rw [hW2]; exact q3.put 9 (by omega) (by omega) (.int .i64 e1)
  have t4 : Tn [M.g, W] w W2 := by rw [hW2]; exact (t2.trans t3).setCell (.inl (by simp)) _
  rw [← hW2]
  clear hW2 q3 t3 t2 d1 f1 z1
  have c8 : W2.cell? ⟨W, 8, none⟩ = some (.int .i8 k1) := q4.cell 8 rfl
  have c9 : W2.cell? ⟨W, 9, none⟩ = some (.int .i64 e1) := q4.cell 9 rfl
  have c10 : W2.cell? ⟨W, 10, none⟩ = some (.int .i64 0) := q4.cell 10 rfl
  have c11 : W2.cell? ⟨W, 11, none⟩ = some (.int .i64 0) := q4.cell 11 rfl
  have c12 : W2.cell? ⟨W, 12, none⟩ = some (.int .i64 0) := q4.cell 12 rfl
  have c13 : W2.cell? ⟨W, 13, none⟩ = some (.slice none 0 0) := q4.cell 13 rfl
  have z1 := q4.lt'
  have hown := own_fields k1 e1 0 0 0 none 0 0 W2
  unfold OwnRes ownV at hown
  have hfn : ∃ hf : Nat → Bool, hf = hasF k1 e1 := ⟨_, rfl⟩
  obtain ⟨hf, hhf⟩ := hfn
  obtain ⟨a0, a1, a2, a3, ha0, ha1, ha2, ha3⟩ : ∃ a0 a1 a2 a3, hasF k1 e1 0 = a0 ∧ hasF k1 e1 1 = a1 ∧ hasF k1 e1 2 = a2 ∧ hasF k1 e1 3 = a3 := ⟨_, _, _, _, rfl, rfl, rfl, rfl⟩
  rw [ha0, ha1, ha2, ha3] at hown
  rw [← hhf] at ha0 ha1 ha2 ha3 HRES
  have HOWN := Lib.hid hown
  have A0 := Lib.hid ha0
  have A1 := Lib.hid ha1
  have A2 := Lib.hid ha2
  have A3 := Lib.hid ha3
  clear hown hhf ha0 ha1 ha2 ha3
  go_wp2_with fail
  refine HOWN.out.mono ?_
  rintro e w3 ⟨rfl, b3⟩
  have q5 := q4.below b3
  have t5 := t4.trans (Tn.of_below b3)
  clear c8 c9 c10 c11 c12 c13 z1 q4 t4 b3
  go_upto_region 3 with fail
  obtain ⟨bh, hbh⟩ : ∃ bh, bh = w3.heap.size := ⟨_, rfl⟩
  obtain ⟨W4, hW4⟩ : ∃ W4, W4 = w3.alloc (.cells #[.bool a0, .bool a1, .bool a2, .bool a3] 73) := ⟨_, rfl⟩
  have v6 : Var W4 bh 73 #[.bool a0, .bool a1, .bool a2, .bool a3] := by rw [hW4, hbh]; exact Var.new _ _ _
  have b6 : Below w3.heap.size w3 W4 := by rw [hW4]; exact below_new _
  have q6 := q5.below b6
  have t6 := t5.trans (Tn.of_below b6)
  have hWb : W < bh := by rw [hbh]; exact q5.lt'
  rw [← hW4, ← hbh]
  clear hW4 hbh q5 t5 b6
  go_wp2_with fail
  refine (steps_any W4).mono ?_
  rintro e w7 ⟨rfl, b7⟩
  have q7 := q6.below b7
  have v7 := v6.below b7 v6.lt
  have t7 := t6.trans (Tn.of_below b7)
  clear q6 v6 t6 b7
  simp only [stepsV]
  go_wp2_with fail
  have r7 : Ry M W wn fr Af nf cf hf (⟨k1, e1, 0, 0, 0, []⟩, s2) bh #[.bool a0, .bool a1, .bool a2, .bool a3] w w7 0 none 0 0 1 :=
    ⟨q7, fun _ => rfl, .inl rfl, World.ownsRow_nil _ _ _ _, rfl, fun _ => ⟨rfl, rfl, rfl⟩, v7, t7⟩
  clear q7 v7 t7
  go_loopw [33] (fun i wr => ∃ (k nt ct m : Nat) (At : Option Addr), k ≤ 4 ∧ i = .int .i64 k ∧ Ry M W wn fr Af nf cf hf (⟨k1, e1, 0, 0, 0, []⟩, s2) bh #[.bool a0, .bool a1, .bool a2, .bool a3] w wr k At nt ct m) (fun i _ => 4 - (intOf i).toNat)
  case atStart => exact ⟨0, 0, 0, 1, none, by omega, rfl, r7⟩
  case round =>
    clear r7
    obtain ⟨k, nt, ct, m, At, hk, rfl, R⟩ := hrel
    by_cases hlt : k < 4
    · obtain ⟨rfl, rfl, rfl⟩ := R.nil hlt
      obtain rfl : m = 1 := R.one hlt
      have hsz := wgos_sz (P := P) (h := hf) (fr := fr) (x := (⟨k1, e1, 0, 0, 0, []⟩, s2)) k
      have hsz3 : P.sz (wgos hf fr (⟨k1, e1, 0, 0, 0, []⟩, s2) k).2.st ≤ 500000 := by
        refine Nat.le_trans hsz ?_
        simp only
        generalize P.sz s2.st = q at hs2
        omega
      clear hsz
      obtain ⟨er, ce, he⟩ := R.wk.errc
      have zW := R.wk.lt'
      have zb := R.has.lt
      have hk4 : k = 0 ∨ k = 1 ∨ k = 2 ∨ k = 3 := by omega
      rcases hk4 with rfl | rfl | rfl | rfl
      · simp only [show ((0 : Nat) : Int) = 0 from rfl]
        have cb : wr.cell? ⟨bh, 0, none⟩ = some (.bool a0) := R.has.cell 0 rfl
        have hw : a0 = false ∨ (a0 = true ∧ (wgos hf fr (⟨k1, e1, 0, 0, 0, []⟩, s2) 0).2.bad = true) ∨ (a0 = true ∧ (wgos hf fr (⟨k1, e1, 0, 0, 0, []⟩, s2) 0).2.bad = false) := by
          rcases a0 with _ | _
          · exact .inl rfl
          · rcases (wgos hf fr (⟨k1, e1, 0, 0, 0, []⟩, s2) 0).2.bad with _ | _
            · exact .inr (.inr ⟨rfl, rfl⟩)
            · exact .inr (.inl ⟨rfl, rfl⟩)
        rcases hw with rfl | ⟨rfl, hb⟩ | ⟨rfl, hb⟩
        · have R9 := R.skip (by omega) (.inl A0.out)
          have HR9 := Lib.hid R9
          clear R R9 he
          go_wp2_with (refine wpList_index_run rfl _ _ _ rfl rfl rfl (step_0 _) ?_)
          go_roundw
          case rel => exact ⟨1, 0, 0, 1, none, by omega, by first | rfl | go_num, HR9.out⟩
          case measure => simp [intOf]
        · have hch : ∃ i, er = fltV i := by
            rcases he with ⟨h, _⟩ | ⟨_, i, fld, u, h, _⟩
            · rw [hb] at h; cases h
            · exact ⟨i, h⟩
          obtain ⟨i9, rfl⟩ := hch
          have R9 := R.skip (by omega) (.inr hb)
          have HR9 := Lib.hid R9
          clear R R9 he hb
          go_wp2_with (refine wpList_index_run rfl _ _ _ rfl rfl rfl (step_0 _) ?_)
          go_roundw
          case rel => exact ⟨1, 0, 0, 1, none, by omega, by first | rfl | go_num, HR9.out⟩
          case measure => simp [intOf]
        · obtain rfl : er = .nilIface := by
            rcases he with ⟨_, h⟩ | ⟨h, _⟩
            · exact h
            · rw [hb] at h; cases h
          have HB := Lib.hid hb
          have HRR := Lib.hid R
          have HCALL := Lib.hid (pid_any M W wn fr (wgos hf fr (⟨k1, e1, 0, 0, 0, []⟩, s2) 0).1 Af none nf cf 0 0 (wgos hf fr (⟨k1, e1, 0, 0, 0, []⟩, s2) 0).2 wr R.wk (by omega) HFIT.out.pid)
          clear R he hb
          go_wp2_with (refine wpList_index_run rfl _ _ _ rfl rfl rfl (step_0 _) ?_)
          refine HCALL.out.mono ?_
          rintro e w9 ⟨rfl, k9, t9⟩
          have R9 := Lib.hid (HRR.out.did (by omega) A0.out HB.out k9 hl hWb t9)
          clear k9 t9 HCALL
          go_wp2
          go_roundw
          case rel => exact ⟨1, 0, 0, 1, none, by omega, by first | rfl | go_num, R9.out⟩
          case measure => simp [intOf]
      · simp only [show ((1 : Nat) : Int) = 1 from rfl]
        have cb : wr.cell? ⟨bh, 1, none⟩ = some (.bool a1) := R.has.cell 1 rfl
        have hw : a1 = false ∨ (a1 = true ∧ (wgos hf fr (⟨k1, e1, 0, 0, 0, []⟩, s2) 1).2.bad = true) ∨ (a1 = true ∧ (wgos hf fr (⟨k1, e1, 0, 0, 0, []⟩, s2) 1).2.bad = false) := by
          rcases a1 with _ | _
          · exact .inl rfl
          · rcases (wgos hf fr (⟨k1, e1, 0, 0, 0, []⟩, s2) 1).2.bad with _ | _
            · exact .inr (.inr ⟨rfl, rfl⟩)
            · exact .inr (.inl ⟨rfl, rfl⟩)
        rcases hw with rfl | ⟨rfl, hb⟩ | ⟨rfl, hb⟩
        · have R9 := R.skip (by omega) (.inl A1.out)
          have HR9 := Lib.hid R9
          clear R R9 he
          go_wp2_with (refine wpList_index_run rfl _ _ _ rfl rfl rfl (step_1 _) ?_)
          go_roundw
          case rel => exact ⟨2, 0, 0, 1, none, by omega, by first | rfl | go_num, HR9.out⟩
          case measure => simp [intOf]
        · have hch : ∃ i, er = fltV i := by
            rcases he with ⟨h, _⟩ | ⟨_, i, fld, u, h, _⟩
            · rw [hb] at h; cases h
            · exact ⟨i, h⟩
          obtain ⟨i9, rfl⟩ := hch
          have R9 := R.skip (by omega) (.inr hb)
          have HR9 := Lib.hid R9
          clear R R9 he hb
          go_wp2_with (refine wpList_index_run rfl _ _ _ rfl rfl rfl (step_1 _) ?_)
          go_roundw
          case rel => exact ⟨2, 0, 0, 1, none, by omega, by first | rfl | go_num, HR9.out⟩
          case measure => simp [intOf]
        · obtain rfl : er = .nilIface := by
            rcases he with ⟨_, h⟩ | ⟨h, _⟩
            · exact h
            · rw [hb] at h; cases h
          have HB := Lib.hid hb
          have HRR := Lib.hid R
          have HCALL := Lib.hid (epoch_any M W wn fr (wgos hf fr (⟨k1, e1, 0, 0, 0, []⟩, s2) 1).1 Af none nf cf 0 0 (wgos hf fr (⟨k1, e1, 0, 0, 0, []⟩, s2) 1).2 wr R.wk (by omega) HFIT.out.ep)
          clear R he hb
          go_wp2_with (refine wpList_index_run rfl _ _ _ rfl rfl rfl (step_1 _) ?_)
          refine HCALL.out.mono ?_
          rintro e w9 ⟨rfl, k9, t9⟩
          have R9 := Lib.hid (HRR.out.did (by omega) A1.out HB.out k9 hl hWb t9)
          clear k9 t9 HCALL
          go_wp2
          go_roundw
          case rel => exact ⟨2, 0, 0, 1, none, by omega, by first | rfl | go_num, R9.out⟩
          case measure => simp [intOf]
      · simp only [show ((2 : Nat) : Int) = 2 from rfl]
        have cb : wr.cell? ⟨bh, 2, none⟩ = some (.bool a2) := R.has.cell 2 rfl
        have hw : a2 = false ∨ (a2 = true ∧ (wgos hf fr (⟨k1, e1, 0, 0, 0, []⟩, s2) 2).2.bad = true) ∨ (a2 = true ∧ (wgos hf fr (⟨k1, e1, 0, 0, 0, []⟩, s2) 2).2.bad = false) := by
          rcases a2 with _ | _
          · exact .inl rfl
          · rcases (wgos hf fr (⟨k1, e1, 0, 0, 0, []⟩, s2) 2).2.bad with _ | _
            · exact .inr (.inr ⟨rfl, rfl⟩)
            · exact .inr (.inl ⟨rfl, rfl⟩)
        rcases hw with rfl | ⟨rfl, hb⟩ | ⟨rfl, hb⟩
        · have R9 := R.skip (by omega) (.inl A2.out)
          have HR9 := Lib.hid R9
          clear R R9 he
          go_wp2_with (refine wpList_index_run rfl _ _ _ rfl rfl rfl (step_2 _) ?_)
          go_roundw
          case rel => exact ⟨3, 0, 0, 1, none, by omega, by first | rfl | go_num, HR9.out⟩
          case measure => simp [intOf]
        · have hch : ∃ i, er = fltV i := by
            rcases he with ⟨h, _⟩ | ⟨_, i, fld, u, h, _⟩
            · rw [hb] at h; cases h
            · exact ⟨i, h⟩
          obtain ⟨i9, rfl⟩ := hch
          have R9 := R.skip (by omega) (.inr hb)
          have HR9 := Lib.hid R9
          clear R R9 he hb
          go_wp2_with (refine wpList_index_run rfl _ _ _ rfl rfl rfl (step_2 _) ?_)
          go_roundw
          case rel => exact ⟨3, 0, 0, 1, none, by omega, by first | rfl | go_num, HR9.out⟩
          case measure => simp [intOf]
        · obtain rfl : er = .nilIface := by
            rcases he with ⟨_, h⟩ | ⟨h, _⟩
            · exact h
            · rw [hb] at h; cases h
          have HB := Lib.hid hb
          have HRR := Lib.hid R
          have HCALL := Lib.hid (offset_any M W wn fr (wgos hf fr (⟨k1, e1, 0, 0, 0, []⟩, s2) 2).1 Af none nf cf 0 0 (wgos hf fr (⟨k1, e1, 0, 0, 0, []⟩, s2) 2).2 wr R.wk (by omega) HFIT.out.off)
          clear R he hb
          go_wp2_with (refine wpList_index_run rfl _ _ _ rfl rfl rfl (step_2 _) ?_)
          refine HCALL.out.mono ?_
          rintro e w9 ⟨rfl, k9, t9⟩
          have R9 := Lib.hid (HRR.out.did (by omega) A2.out HB.out k9 hl hWb t9)
          clear k9 t9 HCALL
          go_wp2
          go_roundw
          case rel => exact ⟨3, 0, 0, 1, none, by omega, by first | rfl | go_num, R9.out⟩
          case measure => simp [intOf]
      · simp only [show ((3 : Nat) : Int) = 3 from rfl]
        have cb : wr.cell? ⟨bh, 3, none⟩ = some (.bool a3) := R.has.cell 3 rfl
        have hw : a3 = false ∨ (a3 = true ∧ (wgos hf fr (⟨k1, e1, 0, 0, 0, []⟩, s2) 3).2.bad = true) ∨ (a3 = true ∧ (wgos hf fr (⟨k1, e1, 0, 0, 0, []⟩, s2) 3).2.bad = false) := by
          rcases a3 with _ | _
          · exact .inl rfl
          · rcases (wgos hf fr (⟨k1, e1, 0, 0, 0, []⟩, s2) 3).2.bad with _ | _
            · exact .inr (.inr ⟨rfl, rfl⟩)
            · exact .inr (.inl ⟨rfl, rfl⟩)
        rcases hw with rfl | ⟨rfl, hb⟩ | ⟨rfl, hb⟩
        · have R9 := R.skip (by omega) (.inl A3.out)
          have HR9 := Lib.hid R9
          clear R R9 he
          go_wp2_with (refine wpList_index_run rfl _ _ _ rfl rfl rfl (step_3 _) ?_)
          go_roundw
          case rel => exact ⟨4, 0, 0, 1, none, by omega, by first | rfl | go_num, HR9.out⟩
          case measure => simp [intOf]
        · have hch : ∃ i, er = fltV i := by
            rcases he with ⟨h, _⟩ | ⟨_, i, fld, u, h, _⟩
            · rw [hb] at h; cases h
            · exact ⟨i, h⟩
          obtain ⟨i9, rfl⟩ := hch
          have R9 := R.skip (by omega) (.inr hb)
          have HR9 := Lib.hid R9
          clear R R9 he hb
          go_wp2_with (refine wpList_index_run rfl _ _ _ rfl rfl rfl (step_3 _) ?_)
          go_roundw
          case rel => exact ⟨4, 0, 0, 1, none, by omega, by first | rfl | go_num, HR9.out⟩
          case measure => simp [intOf]
        · obtain rfl : er = .nilIface := by
            rcases he with ⟨_, h⟩ | ⟨h, _⟩
            · exact h
            · rw [hb] at h; cases h
          have HB := Lib.hid hb
          have HRR := Lib.hid R
          have HCALL := Lib.hid (rows_any M W wn _ (wgos hf fr (⟨k1, e1, 0, 0, 0, []⟩, s2) 3).2 Af nf cf fr.rows wr R.wk hsz3 HB.out rfl rfl HF.out (hseen.below (R.tn.below (B := M.g) (by omega) (by simp; omega))) hmax HROWS.out)
          clear R he hb
          go_wp2_with (refine wpList_index_run rfl _ _ _ rfl rfl rfl (step_3 _) ?_)
          refine HCALL.out.mono ?_
          rintro e w9 ⟨rfl, A9, n9, c9, k9, o9, l9, t9⟩
          have R9 := Lib.hid (HRR.out.rowsd A3.out HB.out k9 o9 l9 hl hWb t9)
          clear k9 o9 l9 t9 HCALL
          go_wp2
          go_roundw
          case rel => exact ⟨4, n9, c9, 2, A9, by omega, by first | rfl | go_num, R9.out⟩
          case measure => simp [intOf]
    · obtain rfl : k = 4 := by omega
      simp only [show ((4 : Nat) : Int) = 4 from rfl]
      go_wp2
      refine bodyPost_end (results_none rfl _ _ _) rfl ?_
      rw [HRES.out]
      refine ⟨rfl, At, nt, ct, ?_, R.own, R.len, R.tn⟩
      rcases R.two with rfl | rfl
      · exact R.wk.up
      · exact R.wk
end Go.Proofs.YtplpagnnlggfgaaDoor
