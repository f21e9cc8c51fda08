/-
  The contract of a walk's row, whatever the pass. Conditions: those that the theorem names.
-/
import Derived.Test.YtplpagnnlggfgaaDoorRepNum
import Derived.Test.YtplpagnnlggfgaaDoorRepAlike
namespace Go.Proofs.YtplpagnnlggfgaaDoor
open Go.RowKit

theorem wp_store_v {P : Program} {w : World} {g T ty : Nat} {cs cells : Array Value} {o : Oper} {a : Act} {K : Act → World → Prop} {Q : Exit → Act → World → Prop} (x y : Operand) (ho : o.op = .store ty x y)
    (hx : a.eval x = .pointer (some ⟨g, 0, none⟩)) (hy : a.eval y = .agg cells) (hv : Var w g T cs) (hs : cs.size = cells.size) (hi : (P.info? ty).map (·.size) = some cells.size) (h1 : cells.all (·.oneCell') = true)
    (h : ∀ w', Var w' g T cells → Only g w w' → K (a.put o.dst undef) w') : o.wp P a w K Q := by
  refine wp_store_mid ty x y ho g 0 cells hx hy (fun j hj => ?_) hi h1 (h _ ?_ (setCells_only _ _ _))
  · rw [Nat.zero_add]
    have hlt : j < cs.size := by omega
    exact ⟨by rw [hv.cell j (Array.getElem?_eq_getElem hlt)]; rfl, hv.free j⟩
  · have := setCells_var (g := g) (T := T) cells.toList 0 [] cs.toList w rfl (by simpa using hs) (by simpa using hv)
    simpa using this
def rwvals (r : Rw) : Array Value := #[.int .i64 r.off, .int .i64 r.pid, .int .i64 r.sq, .string r.k, .string r.v]
theorem rwvals_one (r : Rw) : (rwvals r).all (·.oneCell') = true := by simp [rwvals, Value.oneCell']
/-- A row whose numbers and texts a machine can hold. -/
structure RwFit (r : Rw) : Prop where
  off : -9223372036854775808 ≤ r.off ∧ r.off ≤ 9223372036854775807
  pid : -9223372036854775808 ≤ r.pid ∧ r.pid ≤ 9223372036854775807
  sq : -9223372036854775808 ≤ r.sq ∧ r.sq ≤ 9223372036854775807
  k : r.k.size ≤ 9223372036854775807
  v : r.v.size ≤ 9223372036854775807
theorem Wk.only {P : Pass} {M : PIn P} {w w' : World} {W : Nat} {wr : Int} {m : Nat} {A : Array Value} {s : Ws P} (h : Wk M w W wr m A s) {b T : Nat} {cs : Array Value} (hv : Var w b T cs) (hb : W < b) (ho : Only b w w') (hT : T ≠ 5) (hc : ∀ i fld u, Flt w i fld u → i ≠ b) : Wk M w' W wr m A s := by
  obtain ⟨er, hw, he⟩ := h.var
  have hl := h.lt
  refine ⟨⟨er, ho.var hw (by omega), ?_⟩, M.kq h.rep ⟨by rw [ho.size]; exact Nat.le_refl _, fun k hk hs => ho.block k (fun hkb => ?_)⟩, h.lt, h.a0, h.a1, h.asz⟩
  · have key : ∀ {m : Nat} {er : Value}, Chain w W wr m er → Chain w' W wr m er := by
      intro m
      induction m with
      | zero => exact fun h => h.elim
      | succ m ih =>
        rintro er ⟨i, fld, u, a, b', c, d⟩
        refine ⟨i, fld, u, a, b', ho.var c (hc i fld u c), ?_⟩
        rcases d with d | d
        · exact .inl d
        · exact .inr (ih d)
    rcases he with he | ⟨h1, h2⟩
    · exact .inl he
    · exact .inr ⟨h1, key h2⟩
  · rcases hs with hs | ⟨_, ht⟩
    · omega
    · rw [hkb] at ht
      exact hT (hv.typed.one ht)
theorem Flt.ne {w : World} {i b : Nat} {fld : ByteArray} {u : Value} {cs : Array Value} (h : Flt w i fld u) (hv : Var w b 37 cs) : i ≠ b := fun he => by
  subst he
  have := Typed.one (Var.typed h) hv.typed
  revert this
  decide
theorem Tn.only {S : List Nat} {a w w' : World} {b : Nat} (h : Tn S a w) (ho : Only b w w') (hb : a.heap.size ≤ b) : Tn S a w' :=
  ⟨ho.os.trans h.os, ho.tape.trans h.tape, ho.output.trans h.output, by rw [ho.size]; exact h.size, fun i hi hn ht => by rw [ho.block i (by omega), h.block i hi hn ht]⟩

set_option maxRecDepth 100000 in
set_option maxHeartbeats 1000000 in
theorem row_any {P : Pass} (M : PIn P) (W : Nat) (wr : Int) (A : Array Value) (s : Ws P) (r : Rw) (w : World) (h : Wk M w W wr 1 A s) (hs : P.sz s.st ≤ 690000) (hr : RwFit r) :
    Calls Tryd.prog 44 #[.pointer (some ⟨W, 0, none⟩), .agg (rwvals r)] w (NRes M W wr A (.agg (rwvals (wrow s r).1)) (wrow s r).2 w) := by
  obtain ⟨⟨o1, o2⟩, ⟨p1, p2⟩, ⟨q1, q2⟩, k1, v1⟩ := hr
  obtain ⟨ra, rp, rs, rk, rv⟩ := r
  simp only at o1 o2 p1 p2 q1 q2 k1 v1
  obtain ⟨xa, hxa⟩ : ∃ x, x = wplace s ra (-1) := ⟨_, rfl⟩
  obtain ⟨xb, hxb⟩ : ∃ x, x = wnum xa.2 rp 1 8 := ⟨_, rfl⟩
  obtain ⟨xc, hxc⟩ : ∃ x, x = wnum xb.2 rs 0 1048575 := ⟨_, rfl⟩
  obtain ⟨xd, hxd⟩ : ∃ x, x = wtext xc.2 rk := ⟨_, rfl⟩
  obtain ⟨xe, hxe⟩ : ∃ x, x = wtext xd.2 rv := ⟨_, rfl⟩
  have HW : Hid (wrow s ⟨ra, rp, rs, rk, rv⟩ = (⟨xa.1, xb.1, xc.1, xd.1, xe.1⟩, xe.2)) := by show _ = _; simp only [wrow, hxe, hxd, hxc, hxb, hxa]
  have sa : P.sz xa.2.st ≤ P.sz s.st + 10 := by rw [hxa]; exact wplace_sz
  have sb : P.sz xb.2.st ≤ P.sz xa.2.st + 10 := by rw [hxb]; exact wnum_sz
  have sc : P.sz xc.2.st ≤ P.sz xb.2.st + 10 := by rw [hxc]; exact wnum_sz
  have sd : P.sz xd.2.st ≤ P.sz xc.2.st + 1100 := by rw [hxd]; exact wtext_sz
  have zb : P.sz xa.2.st ≤ 700000 := by omega
  have zc : P.sz xb.2.st ≤ 700000 := by omega
  have zd : P.sz xc.2.st ≤ 700000 := by omega
  have ze : P.sz xd.2.st ≤ 700000 := by omega
  have zs : P.sz s.st ≤ 700000 := by omega
  clear sa sb sc sd hs
  have HA := Lib.hid hxa
  have HB := Lib.hid hxb
  have HC := Lib.hid hxc
  have HD := Lib.hid hxd
  have HE := Lib.hid hxe
  clear hxa hxb hxc hxd hxe
  simp only [rwvals]
  obtain ⟨b, hb⟩ : ∃ b, b = w.heap.size := ⟨_, rfl⟩
  obtain ⟨W0, hW0⟩ : ∃ W0, W0 = (w.alloc (.cells #[.int .i64 ra, .int .i64 rp, .int .i64 rs, .string rk, .string rv] 37)).alloc (.cells #[.int .i64 0, .int .i64 0, .int .i64 0, .string ⟨#[]⟩, .string ⟨#[]⟩] 37) := ⟨_, rfl⟩
  obtain ⟨v0, v1', hbel⟩ := two_new w #[.int .i64 ra, .int .i64 rp, .int .i64 rs, .string rk, .string rv] #[.int .i64 0, .int .i64 0, .int .i64 0, .string ⟨#[]⟩, .string ⟨#[]⟩] 37
  rw [← hW0] at v0 v1' hbel
  have hk0 := h.below hbel
  have hl := h.lt
  have hl' := h.lt'
  have HW0 := Lib.hid hW0
  have HBB := Lib.hid hb
  clear hW0 h hb
  go_enter Tryd.func44, Tryd.ntmps44
  go_upto_region 1 with fail
  rw [← HW0.out, ← HBB.out]
  rw [← HBB.out] at v0 v1' hbel hl'
  have h0 : Var W0.drew b 37 #[.int .i64 ra, .int .i64 rp, .int .i64 rs, .string rk, .string rv] ∧ ∃ cs, Var W0.drew (b + 1) 37 cs ∧ cs.size = 5 := ⟨v0, _, v1', rfl⟩
  have k0 : Wk M W0.drew W wr 1 A s := hk0.below (Below.refl _ _).drew
  have t0 : Tn [M.g, W] w W0.drew := (Tn.of_below (by rw [← HBB.out]; exact hbel)).drew
  clear v0 v1' hbel hk0 HW0
  refine wp_region_held_drew (S := fun w' => Var w' b 37 #[.int .i64 ra, .int .i64 rp, .int .i64 rs, .string rk, .string rv] ∧ ∃ cs, Var w' (b + 1) 37 cs ∧ cs.size = 5) (by kernel_rfl) h0 (fun hHeld => ?_)
  generalize W0.drew = W1 at h0 k0 t0 hHeld ⊢
  clear hHeld
  refine fld_takes [0, 1, 2, 4, 5, 6, 8, 9, 10, 12, 13, 14, 16, 17, 18] _ 7 _ _ _ (by kernel_rfl) (fun _ d _ _ _ h => by cases d <;> exact h) (by rfl) (by kernel_rfl) (by assumption) ?_
  refine fld_taken (v := ?_) rfl (by rfl) (fun w' hw' => ?_) ?_
  rotate_left
  · (go_simp <;> with_reducible rfl)
  simp only [Act.put, List.getElem_toArray, List.getElem_cons_zero, List.setIfInBounds_toArray, List.set_cons_zero, List.set_cons_succ]
  refine fld_taken (v := ?_) rfl (by rfl) (fun w' hw' => ?_) ?_
  rotate_left
  · (go_simp <;> with_reducible rfl)
  simp only [Act.put, List.getElem_toArray, List.getElem_cons_succ, List.getElem_cons_zero, List.setIfInBounds_toArray, List.set_cons_zero, List.set_cons_succ]
  refine fld_taken (v := ?_) rfl (by rfl) (fun w' hw' => ?_) ?_
  rotate_left
  · have c := hw'.1.cell 0 rfl
    (go_simp <;> with_reducible rfl)
  simp only [Act.put, List.getElem_toArray, List.getElem_cons_succ, List.getElem_cons_zero, List.setIfInBounds_toArray, List.set_cons_zero, List.set_cons_succ]
  refine fld_taken (v := ?_) rfl (by rfl) (fun w' hw' => ?_) ?_
  rotate_left
  · (go_simp <;> with_reducible rfl)
  simp only [Act.put, List.getElem_toArray, List.getElem_cons_succ, List.getElem_cons_zero, List.setIfInBounds_toArray, List.set_cons_zero, List.set_cons_succ]
  refine fld_taken (v := ?_) rfl (by rfl) (fun w' hw' => ?_) ?_
  rotate_left
  · (go_simp <;> with_reducible rfl)
  simp only [Act.put, List.getElem_toArray, List.getElem_cons_succ, List.getElem_cons_zero, List.setIfInBounds_toArray, List.set_cons_zero, List.set_cons_succ]
  refine fld_taken (v := ?_) rfl (by rfl) (fun w' hw' => ?_) ?_
  rotate_left
  · have c := hw'.1.cell 1 rfl
    (go_simp <;> with_reducible rfl)
  simp only [Act.put, List.getElem_toArray, List.getElem_cons_succ, List.getElem_cons_zero, List.setIfInBounds_toArray, List.set_cons_zero, List.set_cons_succ]
  refine fld_taken (v := ?_) rfl (by rfl) (fun w' hw' => ?_) ?_
  rotate_left
  · (go_simp <;> with_reducible rfl)
  simp only [Act.put, List.getElem_toArray, List.getElem_cons_succ, List.getElem_cons_zero, List.setIfInBounds_toArray, List.set_cons_zero, List.set_cons_succ]
  refine fld_taken (v := ?_) rfl (by rfl) (fun w' hw' => ?_) ?_
  rotate_left
  · (go_simp <;> with_reducible rfl)
  simp only [Act.put, List.getElem_toArray, List.getElem_cons_succ, List.getElem_cons_zero, List.setIfInBounds_toArray, List.set_cons_zero, List.set_cons_succ]
  refine fld_taken (v := ?_) rfl (by rfl) (fun w' hw' => ?_) ?_
  rotate_left
  · have c := hw'.1.cell 2 rfl
    (go_simp <;> with_reducible rfl)
  simp only [Act.put, List.getElem_toArray, List.getElem_cons_succ, List.getElem_cons_zero, List.setIfInBounds_toArray, List.set_cons_zero, List.set_cons_succ]
  refine fld_taken (v := ?_) rfl (by rfl) (fun w' hw' => ?_) ?_
  rotate_left
  · (go_simp <;> with_reducible rfl)
  simp only [Act.put, List.getElem_toArray, List.getElem_cons_succ, List.getElem_cons_zero, List.setIfInBounds_toArray, List.set_cons_zero, List.set_cons_succ]
  refine fld_taken (v := ?_) rfl (by rfl) (fun w' hw' => ?_) ?_
  rotate_left
  · (go_simp <;> with_reducible rfl)
  simp only [Act.put, List.getElem_toArray, List.getElem_cons_succ, List.getElem_cons_zero, List.setIfInBounds_toArray, List.set_cons_zero, List.set_cons_succ]
  refine fld_taken (v := ?_) rfl (by rfl) (fun w' hw' => ?_) ?_
  rotate_left
  · have c := hw'.1.cell 3 rfl
    (go_simp <;> with_reducible rfl)
  simp only [Act.put, List.getElem_toArray, List.getElem_cons_succ, List.getElem_cons_zero, List.setIfInBounds_toArray, List.set_cons_zero, List.set_cons_succ]
  refine fld_taken (v := ?_) rfl (by rfl) (fun w' hw' => ?_) ?_
  rotate_left
  · (go_simp <;> with_reducible rfl)
  simp only [Act.put, List.getElem_toArray, List.getElem_cons_succ, List.getElem_cons_zero, List.setIfInBounds_toArray, List.set_cons_zero, List.set_cons_succ]
  refine fld_taken (v := ?_) rfl (by rfl) (fun w' hw' => ?_) ?_
  rotate_left
  · (go_simp <;> with_reducible rfl)
  simp only [Act.put, List.getElem_toArray, List.getElem_cons_succ, List.getElem_cons_zero, List.setIfInBounds_toArray, List.set_cons_zero, List.set_cons_succ]
  refine fld_taken (v := ?_) rfl (by rfl) (fun w' hw' => ?_) ?_
  rotate_left
  · have c := hw'.1.cell 4 rfl
    (go_simp <;> with_reducible rfl)
  simp only [Act.put, List.getElem_toArray, List.getElem_cons_succ, List.getElem_cons_zero, List.setIfInBounds_toArray, List.set_cons_zero, List.set_cons_succ]
  refine fld_taken_nil ?_
  refine fld_alone (i := 3) (by kernel_rfl) rfl (by rfl) (fun K hK => ?_)
  go_simp
  refine (place_any M W wr A s ra (-1) W1 k0 zs o1 o2 (.inr rfl)).mono ?_
  rintro e W2 ⟨rfl, j1, u1⟩
  rw [← HA.out] at j1
  rw [← HA.out]
  have h1 : Var W2 b 37 #[.int .i64 ra, .int .i64 rp, .int .i64 rs, .string rk, .string rv] ∧ ∃ cs, Var W2 (b + 1) 37 cs ∧ cs.size = 5 := ⟨h0.1.tn u1 (by simp; omega) (by decide), (by obtain ⟨cs, hc, hz⟩ := h0.2; exact ⟨cs, hc.tn u1 (by simp; omega) (by decide), hz⟩)⟩
  have t1 := t0.trans u1
  go_wp2_with fail
  refine hK.out _ _ h1 ?_
  clear hK K h0 t0 u1
  refine fld_alone (i := 7) (by kernel_rfl) rfl (by rfl) (fun K hK => ?_)
  go_simp
  refine (num_int M W wr A xa.2 _ rp 1 8 W2 j1 zb p1 p2).mono ?_
  rintro e W3 ⟨rfl, j2, u2⟩
  rw [← HB.out] at j2
  rw [← HB.out]
  have h2 : Var W3 b 37 #[.int .i64 ra, .int .i64 rp, .int .i64 rs, .string rk, .string rv] ∧ ∃ cs, Var W3 (b + 1) 37 cs ∧ cs.size = 5 := ⟨h1.1.tn u2 (by simp; omega) (by decide), (by obtain ⟨cs, hc, hz⟩ := h1.2; exact ⟨cs, hc.tn u2 (by simp; omega) (by decide), hz⟩)⟩
  have t2 := t1.trans u2
  go_wp2_with fail
  refine hK.out _ _ h2 ?_
  clear hK K h1 t1 u2
  refine fld_alone (i := 11) (by kernel_rfl) rfl (by rfl) (fun K hK => ?_)
  go_simp
  refine (num_int M W wr A xb.2 _ rs 0 1048575 W3 j2 zc q1 q2).mono ?_
  rintro e W4 ⟨rfl, j3, u3⟩
  rw [← HC.out] at j3
  rw [← HC.out]
  have h3 : Var W4 b 37 #[.int .i64 ra, .int .i64 rp, .int .i64 rs, .string rk, .string rv] ∧ ∃ cs, Var W4 (b + 1) 37 cs ∧ cs.size = 5 := ⟨h2.1.tn u3 (by simp; omega) (by decide), (by obtain ⟨cs, hc, hz⟩ := h2.2; exact ⟨cs, hc.tn u3 (by simp; omega) (by decide), hz⟩)⟩
  have t3 := t2.trans u3
  go_wp2_with fail
  refine hK.out _ _ h3 ?_
  clear hK K h2 t2 u3
  refine fld_alone (i := 15) (by kernel_rfl) rfl (by rfl) (fun K hK => ?_)
  go_simp
  refine (text_any M W wr A xc.2 _ rk W4 j3 zd k1).mono ?_
  rintro e W5 ⟨rfl, j4, u4⟩
  rw [← HD.out] at j4
  rw [← HD.out]
  have h4 : Var W5 b 37 #[.int .i64 ra, .int .i64 rp, .int .i64 rs, .string rk, .string rv] ∧ ∃ cs, Var W5 (b + 1) 37 cs ∧ cs.size = 5 := ⟨h3.1.tn u4 (by simp; omega) (by decide), (by obtain ⟨cs, hc, hz⟩ := h3.2; exact ⟨cs, hc.tn u4 (by simp; omega) (by decide), hz⟩)⟩
  have t4 := t3.trans u4
  go_wp2_with fail
  refine hK.out _ _ h4 ?_
  clear hK K h3 t3 u4
  refine fld_alone (i := 19) (by kernel_rfl) rfl (by rfl) (fun K hK => ?_)
  go_simp
  refine (text_any M W wr A xd.2 _ rv W5 j4 ze v1).mono ?_
  rintro e W6 ⟨rfl, j5, u5⟩
  rw [← HE.out] at j5
  rw [← HE.out]
  have h5 : Var W6 b 37 #[.int .i64 ra, .int .i64 rp, .int .i64 rs, .string rk, .string rv] ∧ ∃ cs, Var W6 (b + 1) 37 cs ∧ cs.size = 5 := ⟨h4.1.tn u5 (by simp; omega) (by decide), (by obtain ⟨cs, hc, hz⟩ := h4.2; exact ⟨cs, hc.tn u5 (by simp; omega) (by decide), hz⟩)⟩
  have t5 := t4.trans u5
  go_wp2_with fail
  refine hK.out _ _ h5 ?_
  clear hK K h4 t4 u5
  refine fld_alone (i := 20) (by kernel_rfl) rfl (by rfl) (fun K hK => ?_)
  go_wp2_with fail
  refine hK.out _ _ h5 ?_
  clear hK K
  refine fld_alone (i := 21) (by kernel_rfl) rfl (by rfl) (fun K hK => ?_)
  obtain ⟨hr5, cs5, hc5, hz5⟩ := h5
  refine wp_store_v (.tmp 4) (.tmp 25) rfl rfl rfl hc5 (by rw [hz5]; rfl) (by kernel_rfl) (rwvals_one ⟨xa.1, xb.1, xc.1, xd.1, xe.1⟩) ?_
  intro W9 v9 o9
  have h9 : Var W9 b 37 #[.int .i64 ra, .int .i64 rp, .int .i64 rs, .string rk, .string rv] ∧ ∃ cs, Var W9 (b + 1) 37 cs ∧ cs.size = 5 := ⟨o9.var hr5 (by omega), _, v9, rfl⟩
  refine hK.out _ _ h9 ?_
  clear hK K
  refine wpAnyH_done (by kernel_rfl) ?_ _
  go_wp2
  refine bodyPost_ret (results_var rfl rfl v9 Tryd.underlying37 rfl (by kernel_rfl)) rfl ?_
  refine ⟨?_, ?_, t5.only o9 (by have := HBB.out; omega)⟩
  · rw [HW.out]
  · rw [HW.out]
    exact j5.only hc5 (by omega) o9 (by decide) (fun i fld u hi => hi.ne hc5)
end Go.Proofs.YtplpagnnlggfgaaDoor
