/-
  Contracts of the methods by which entry's reader reads the fields of each kind. Conditions: those that each theorem names.
-/
import Derived.Test.YtchpemgamgcbkaaGreatEntStore
import Derived.Test.YtchpemgamgcbkaaGreatRecReadB
import Derived.Test.YtchpemgamgcbkaaGreatFldHeads
namespace Go.Proofs.YtchpemgamgcbkaaGreat
open Go.RowKit

theorem wp_store_var {P : Program} {w : World} {g T ty : Nat} {cs cells : Array Value} {o : Oper} {a : Act} {K : Act → World → Prop} {Q : Exit → Act → World → Prop} (x y : Operand) (ho : o.op = .store ty x y)
    (hx : a.eval x = .pointer (some ⟨g, 0, none⟩)) (hy : a.eval y = .agg cells) (hv : Var w g T cs) (hs : cs.size = cells.size) (hi : (P.info? ty).map (·.size) = some cells.size) (h1 : cells.all (·.oneCell') = true)
    (h : ∀ w', Var w' g T cells → Only g w w' → K (a.put o.dst undef) w') : o.wp P a w K Q := by
  refine wp_store_mid ty x y ho g 0 cells hx hy (fun j hj => ?_) hi h1 (h _ ?_ (setCells_only _ _ _))
  · rw [Nat.zero_add]
    have hlt : j < cs.size := by omega
    exact ⟨by rw [hv.cell j (Array.getElem?_eq_getElem hlt)]; rfl, hv.free j⟩
  · have := setCells_var (g := g) (T := T) cells.toList 0 [] cs.toList w rfl (by simpa using hs) (by simpa using hv)
    simpa using this
def zeroE : Array Value := #[.int .i8 0, .int .i64 0, .int .i64 0, .int .i64 0, .bool false, .slice none 0 0, .bool false, .int .i64 0, .int .i64 0, .int .i64 0, .int .i64 0, .int .i64 0, .string ⟨#[]⟩, .string ⟨#[]⟩, .int .i64 0, .int .i64 0, .int .i64 0, .slice none 0 0]
theorem rd_two (w : World) (g : Nat) (cs : Array Value) (T : TypeId) (s : ByteArray) (p : Nat) (bad : Bool) (hr : Rd 105 w g s p bad) :
    Var ((w.alloc (.cells #[.pointer (some ⟨g, 0, none⟩)] 89)).alloc (.cells cs T)) w.heap.size 89 #[.pointer (some ⟨g, 0, none⟩)] ∧ Var ((w.alloc (.cells #[.pointer (some ⟨g, 0, none⟩)] 89)).alloc (.cells cs T)) (w.heap.size + 1) T cs ∧
    Rd 105 ((w.alloc (.cells #[.pointer (some ⟨g, 0, none⟩)] 89)).alloc (.cells cs T)) g s p bad ∧ Kept [g] w ((w.alloc (.cells #[.pointer (some ⟨g, 0, none⟩)] 89)).alloc (.cells cs T)) ∧ ((w.alloc (.cells #[.pointer (some ⟨g, 0, none⟩)] 89)).alloc (.cells cs T)).heap.size = w.heap.size + 2 :=
  ⟨(Var.new _ _ _).alloc _, (by have h := Var.new (w.alloc (.cells #[.pointer (some ⟨g, 0, none⟩)] 89)) cs T; rw [World.size_alloc] at h; exact h), (Var.alloc hr _).alloc _, ((Kept.refl _ _).alloc _).alloc _, by simp⟩

/-- An entry in memory of the call's own. -/
structure EOwn (base : Nat) (w : World) (x : En) (A : Option Addr) (n c : Nat) (D : Option Addr) (m d : Nat) : Prop where
  recs : w.ownsRow base 56 2 (.slice A n c) n (rcells x.b.rs)
  seen : w.ownsRow base 75 3 (.slice D m d) m (scells x.pd.sn)
  len : x.b.rs.length = n
  len2 : x.pd.sn.length = m
  four : n ≤ 4 ∧ m ≤ 4
  good : ∀ r ∈ x.b.rs, r.Good
  small : x.row.k.size ≤ 16 ∧ x.row.v.size ≤ 16
section
variable {base g : Nat} {S : List Nat} {w w' : World} {x y : En} {A D : Option Addr} {n c m d : Nat}
theorem EOwn.kept (h : EOwn base w x A n c D m d) (hk : Kept S w w') (hS : ∀ x ∈ S, x < base) : EOwn base w' x A n c D m d := ⟨own_kept h.recs hk hS, own_kept h.seen hk hS, h.len, h.len2, h.four, h.good, h.small⟩
theorem EOwn.only (h : EOwn base w x A n c D m d) (k : Only g w w') (hg : g < base) : EOwn base w' x A n c D m d := ⟨Only.own h.recs k hg, Only.own h.seen k hg, h.len, h.len2, h.four, h.good, h.small⟩
theorem EOwn.next (h : EOwn base w x A n c D m d) (hb : Below w.heap.size w w') : EOwn base w' x A n c D m d := ⟨own_next h.recs hb, own_next h.seen hb, h.len, h.len2, h.four, h.good, h.small⟩
theorem EOwn.down (h : EOwn base w x A n c D m d) {B : Nat} (hb : B ≤ base) : EOwn B w x A n c D m d := ⟨own_down h.recs hb, own_down h.seen hb, h.len, h.len2, h.four, h.good, h.small⟩
theorem EOwn.alike (h : EOwn base w x A n c D m d) (hb : y.b.rs = x.b.rs) (hr : y.row = x.row) (hp : y.pd = x.pd) : EOwn base w y A n c D m d :=
  ⟨by rw [hb]; exact h.recs, by rw [hp]; exact h.seen, by rw [hb]; exact h.len, by rw [hp]; exact h.len2, h.four, by rw [hb]; exact h.good, by rw [hr]; exact h.small⟩
theorem own_type {base e n size q T : Nat} {v : Value} {xs : List Value} {cs : Array Value} {w w' : World} (h : w.ownsRow base e size v n xs) (hv : Var w q T cs) (hT : T ≠ e) (k : Only q w w') : w'.ownsRow base e size v n xs := by
  refine ⟨h.1, ?_⟩
  rcases h.2 with h0 | ⟨r, cap, cur, hv2, hb, hr, hx⟩
  · exact .inl h0
  · refine .inr ⟨r, cap, cur, hv2, hb, (k.block r fun e => ?_).trans hr, hx⟩
    subst e
    rw [show w.heap[_]? = _ from hv] at hr
    injection hr with hr
    injection hr with _ h2 _
    exact hT h2
theorem EOwn.other {q T : Nat} {cs : Array Value} (h : EOwn base w x A n c D m d) (hv : Var w q T cs) (h1 : T ≠ 56) (h2 : T ≠ 75) (k : Only q w w') : EOwn base w' x A n c D m d := ⟨own_type h.recs hv h1 k, own_type h.seen hv h2 k, h.len, h.len2, h.four, h.good, h.small⟩
theorem EOwn.ein (h : EOwn base w x A n c D m d) : EIn w w.heap.size x A n c D m d := by
  obtain ⟨A1, c1, e1, s1, l1⟩ := own_formN h.recs
  obtain ⟨D1, d1, e2, s2, l2⟩ := own_formN h.seen
  injection e1 with a1 _ a3
  injection e2 with b1 _ b3
  subst a1 a3 b1 b3
  have h4 := h.four
  have hs := h.small
  exact ⟨h.len, s1, l1, by omega, fun y hy => by have := h.good y hy; unfold Rc.Good at this; omega, by omega, ⟨h.len2, s2, l2, by omega⟩⟩
end
/-- What a kind's method hands back. -/
def EnRd (g : Nat) (s : ByteArray) (x : En) (p' : Nat) (bad' : Bool) (w : World) (e : Ending) (w' : World) : Prop :=
  ∃ A n c D m d, e = .returned (.agg (evals ⟨0, x.b, x.yes, x.nx, x.off, x.row, x.pd⟩ A n c D m d)) ∧ EOwn w.heap.size w' x A n c D m d ∧ Rd 105 w' g s p' bad' ∧ Kept [g] w w'
theorem bare_in (w : World) (B : Nat) {x : En} (hb : x.b.rs = []) (hp : x.pd.sn = []) (hk : x.row.k.size ≤ 16 ∧ x.row.v.size ≤ 16) : EOwn B w x none 0 0 none 0 0 :=
  ⟨by rw [hb]; exact World.ownsRow_nil _ _ _ _, by rw [hp]; exact World.ownsRow_nil _ _ _ _, by rw [hb]; rfl, by rw [hp]; rfl, by omega, (by rw [hb]; intro y hy; cases hy), hk⟩

set_option maxRecDepth 100000 in
theorem rnumber_any (g : Nat) (s : ByteArray) (p : Nat) (bad : Bool) (v : Int) (p' : Nat) (bad' : Bool) (w : World) (h : NumIs s p bad 0 1099511627776 v p' bad') (hr : Rd 105 w g s p bad) (hx : s.size ≤ 1000000) (hp : p ≤ s.size) :
    Calls Tryz.prog 89 #[.agg #[.pointer (some ⟨g, 0, none⟩)]] w fun e w' => e = .returned (.int .i64 v) ∧ Rd 105 w' g s p' bad' ∧ Kept [g] w w' := by
  have H := Lib.hid h
  clear h
  go_enter Tryz.func89, Tryz.ntmps89
  go_wp2_with fail
  refine (number_all g s p bad 0 1099511627776 v p' bad' _ H.out (Var.alloc hr _) hx hp).mono ?_
  rintro e w1 ⟨rfl, hr1, hk1⟩
  have hk := ((Kept.refl [g] w).alloc (.cells #[.pointer (some ⟨g, 0, none⟩)] 89)).trans hk1
  clear hr H
  go_wp2
  go_ret
  exact ⟨rfl, hr1, hk⟩

set_option maxRecDepth 100000 in
set_option maxHeartbeats 1000000 in
theorem rproducer (g : Nat) (s : ByteArray) (p : Nat) (bad : Bool) (p1 : Nat) (b1 : Bool) (pid ep : Int) (p' : Nat) (bad' : Bool) (w : World) (h1 : NumIs s p bad 0 1099511627776 pid p1 b1) (h2 : NumIs s p1 b1 0 1099511627776 ep p' bad') (hr : Rd 105 w g s p bad) (hx : s.size ≤ 1000000) (hp : p ≤ s.size) :
    Calls Tryz.prog 87 #[.agg #[.pointer (some ⟨g, 0, none⟩)]] w (fun e w' => e = .returned (.agg #[.int .i64 pid, .int .i64 ep, .int .i64 0, .bool false, .slice none 0 0]) ∧ Rd 105 w' g s p' bad' ∧ Kept [g] w w') := by
  have H1 := Lib.hid h1
  have H2 := Lib.hid h2
  have q1 := h1.le hp
  clear h1 h2
  obtain ⟨W0, hW0⟩ : ∃ W0, W0 = (w.alloc (.cells #[.pointer (some ⟨g, 0, none⟩)] 89)).alloc (.cells #[.int .i64 0, .int .i64 0, .int .i64 0, .bool false, .slice none 0 0] 25) := ⟨_, rfl⟩
  obtain ⟨vb, vr, hr0, k0, z0⟩ := rd_two w g #[.int .i64 0, .int .i64 0, .int .i64 0, .bool false, .slice none 0 0] 25 s p bad hr
  rw [← hW0] at vb vr hr0 k0 z0
  have hgw : g < w.heap.size := Var.lt hr
  have hz0 : w.heap.size + 1 < W0.heap.size := by omega
  have HW0 := Lib.hid hW0
  clear hW0 hr z0
  go_enter Tryz.func87, Tryz.ntmps87
  go_upto_region 1 with fail
  rw [← HW0.out]
  have h0 : Var W0.drew w.heap.size 89 #[.pointer (some ⟨g, 0, none⟩)] := vb
  have vr0 : Var W0.drew (w.heap.size + 1) 25 #[.int .i64 0, .int .i64 0, .int .i64 0, .bool false, .slice none 0 0] := vr
  have hr0d : Rd 105 W0.drew g s p bad := hr0
  have k0d : Kept [g] w W0.drew := k0.drew
  clear vb vr hr0 k0 HW0
  refine wp_region_held_drew (S := fun w' => Var w' w.heap.size 89 #[.pointer (some ⟨g, 0, none⟩)]) (by kernel_rfl) h0 (fun hHeld => ?_)
  refine fld_takes [0, 2] _ 4 _ _ _ (by kernel_rfl) (fun _ d _ _ _ h => by cases d <;> exact h) (by rfl) (by kernel_rfl) (by assumption) ?_
  refine fld_taken (v := ?_) rfl (by rfl) (fun w' hw' => ?_) ?_
  rotate_left
  · have hc := Var.cell hw' 0 rfl
    go_simp <;> with_reducible rfl
  simp only [Act.put, List.getElem_toArray, List.getElem_cons_zero, List.setIfInBounds_toArray, List.set_cons_zero, List.set_cons_succ]
  refine fld_taken (v := ?_) rfl (by rfl) (fun w' hw' => ?_) ?_
  rotate_left
  · have hc := Var.cell hw' 0 rfl
    go_simp <;> with_reducible rfl
  simp only [Act.put, List.getElem_toArray, List.getElem_cons_succ, List.getElem_cons_zero, List.setIfInBounds_toArray, List.set_cons_zero, List.set_cons_succ]
  refine fld_taken_nil ?_
  refine fld_alone (i := 1) (by kernel_rfl) rfl (by rfl) (fun K hK => ?_)
  go_simp
  refine (rnumber_any g s p bad pid p1 b1 W0.drew H1.out hr0d hx hp).mono ?_
  rintro e W1 ⟨rfl, hr1, q1⟩
  have h1 := h0.kept q1 (by simp; omega)
  have vr1 := vr0.kept q1 (by simp; omega)
  have k1 := k0d.trans q1
  go_wp2_with fail
  refine hK.out _ _ h1 ?_
  clear hK K h0 vr0 hr0d k0d q1
  refine fld_alone (i := 3) (by kernel_rfl) rfl (by rfl) (fun K hK => ?_)
  go_simp
  refine (rnumber_any g s p1 b1 ep p' bad' W1 H2.out hr1 hx q1).mono ?_
  rintro e W2 ⟨rfl, hr2, q2⟩
  have h2 := h1.kept q2 (by simp; omega)
  have vr2 := vr1.kept q2 (by simp; omega)
  have k2 := k1.trans q2
  go_wp2_with fail
  refine hK.out _ _ h2 ?_
  clear hK K h1 vr1 hr1 k1 q2
  refine fld_takes [4] _ 1 _ _ _ (by kernel_rfl) (fun _ d _ _ _ h => by cases d <;> exact h) (by rfl) (by kernel_rfl) (by assumption) ?_
  refine fld_taken (v := ?_) rfl (by rfl) (fun w' hw' => ?_) ?_
  rotate_left
  · have hc := Var.cell hw' 0 rfl
    go_simp <;> with_reducible rfl
  simp only [Act.put, List.getElem_toArray, List.getElem_cons_succ, List.getElem_cons_zero, List.setIfInBounds_toArray, List.set_cons_zero, List.set_cons_succ]
  refine fld_taken_nil ?_
  refine fld_alone (i := 5) (by kernel_rfl) rfl (by rfl) (fun K hK => ?_)
  refine wp_store_var (.tmp 2) (.tmp 7) rfl rfl rfl vr2 rfl (by kernel_rfl) (by simp [Value.oneCell']) ?_
  intro W9 v9 o9
  refine hK.out _ _ (o9.var h2 (by omega)) ?_
  refine wpAnyH_done (by kernel_rfl) ?_ _
  have hr9 : Rd 105 W9 g s p' bad' := o9.var hr2 (by omega)
  have k9 := Only.kept k2 o9 (.inr (Nat.le_succ _))
  clear hK K hHeld
  go_wp2
  refine bodyPost_ret (results_var rfl rfl v9 Tryz.underlying25 rfl (by kernel_rfl)) rfl ?_
  exact ⟨rfl, hr9, k9⟩

set_option maxRecDepth 100000 in
set_option maxHeartbeats 1000000 in
theorem rmark (g : Nat) (s : ByteArray) (p : Nat) (bad : Bool) (pid ep : Int) (yes : Bool) (p1 p2 : Nat) (b1 b2 : Bool) (p' : Nat) (bad' : Bool) (w : World) (h1 : NumIs s p bad 0 1099511627776 pid p1 b1) (h2 : NumIs s p1 b1 0 1099511627776 ep p2 b2) (h3 : FlagIs s p2 b2 yes p' bad') (hr : Rd 105 w g s p bad) (hx : s.size ≤ 1000000) (hp : p ≤ s.size) :
    Calls Tryz.prog 61 #[.agg #[.pointer (some ⟨g, 0, none⟩)]] w (EnRd g s (markE pid ep yes) p' bad' w) := by
  have H1 := Lib.hid h1
  have H2 := Lib.hid h2
  have H3 := Lib.hid h3
  have q1 := h1.le hp
  have q2 := h2.le q1
  clear h1 h2 h3
  obtain ⟨W0, hW0⟩ : ∃ W0, W0 = (w.alloc (.cells #[.pointer (some ⟨g, 0, none⟩)] 89)).alloc (.cells #[.int .i8 0, .int .i64 0, .int .i64 0, .int .i64 0, .bool false, .slice none 0 0, .bool false, .int .i64 0, .int .i64 0, .int .i64 0, .int .i64 0, .int .i64 0, .string ⟨#[]⟩, .string ⟨#[]⟩, .int .i64 0, .int .i64 0, .int .i64 0, .slice none 0 0] 32) := ⟨_, rfl⟩
  obtain ⟨vb, vr, hr0, k0, z0⟩ := rd_two w g #[.int .i8 0, .int .i64 0, .int .i64 0, .int .i64 0, .bool false, .slice none 0 0, .bool false, .int .i64 0, .int .i64 0, .int .i64 0, .int .i64 0, .int .i64 0, .string ⟨#[]⟩, .string ⟨#[]⟩, .int .i64 0, .int .i64 0, .int .i64 0, .slice none 0 0] 32 s p bad hr
  rw [← hW0] at vb vr hr0 k0 z0
  have hgw : g < w.heap.size := Var.lt hr
  have hz0 : w.heap.size + 1 < W0.heap.size := by omega
  have HW0 := Lib.hid hW0
  clear hW0 hr z0
  go_enter Tryz.func61, Tryz.ntmps61
  go_upto_region 1 with fail
  rw [← HW0.out]
  have h0 : Var W0.drew w.heap.size 89 #[.pointer (some ⟨g, 0, none⟩)] := vb
  have vr0 : Var W0.drew (w.heap.size + 1) 32 #[.int .i8 0, .int .i64 0, .int .i64 0, .int .i64 0, .bool false, .slice none 0 0, .bool false, .int .i64 0, .int .i64 0, .int .i64 0, .int .i64 0, .int .i64 0, .string ⟨#[]⟩, .string ⟨#[]⟩, .int .i64 0, .int .i64 0, .int .i64 0, .slice none 0 0] := vr
  have hr0d : Rd 105 W0.drew g s p bad := hr0
  have k0d : Kept [g] w W0.drew := k0.drew
  clear vb vr hr0 k0 HW0
  refine wp_region_held_drew (S := fun w' => Var w' w.heap.size 89 #[.pointer (some ⟨g, 0, none⟩)]) (by kernel_rfl) h0 (fun hHeld => ?_)
  refine fld_takes [0, 2, 3] _ 4 _ _ _ (by kernel_rfl) (fun _ d _ _ _ h => by cases d <;> exact h) (by rfl) (by kernel_rfl) (by assumption) ?_
  refine fld_taken (v := ?_) rfl (by rfl) (fun w' hw' => ?_) ?_
  rotate_left
  · have hc := Var.cell hw' 0 rfl
    go_simp <;> with_reducible rfl
  simp only [Act.put, List.getElem_toArray, List.getElem_cons_zero, List.setIfInBounds_toArray, List.set_cons_zero, List.set_cons_succ]
  refine fld_taken (v := ?_) rfl (by rfl) (fun w' hw' => ?_) ?_
  rotate_left
  · have hc := Var.cell hw' 0 rfl
    go_simp <;> with_reducible rfl
  simp only [Act.put, List.getElem_toArray, List.getElem_cons_succ, List.getElem_cons_zero, List.setIfInBounds_toArray, List.set_cons_zero, List.set_cons_succ]
  refine fld_taken (v := ?_) rfl (by rfl) (fun w' hw' => ?_) ?_
  rotate_left
  · have hc := Var.cell hw' 0 rfl
    go_simp <;> with_reducible rfl
  simp only [Act.put, List.getElem_toArray, List.getElem_cons_succ, List.getElem_cons_zero, List.setIfInBounds_toArray, List.set_cons_zero, List.set_cons_succ]
  refine fld_taken_nil ?_
  refine fld_alone (i := 1) (by kernel_rfl) rfl (by rfl) (fun K hK => ?_)
  go_simp
  refine (rproducer g s p bad p1 b1 pid ep p2 b2 W0.drew H1.out H2.out hr0d hx hp).mono ?_
  rintro e W1 ⟨rfl, hr1, q1⟩
  have h1 := h0.kept q1 (by simp; omega)
  have vr1 := vr0.kept q1 (by simp; omega)
  have k1 := k0d.trans q1
  go_wp2_with fail
  refine hK.out _ _ h1 ?_
  clear hK K h0 vr0 hr0d k0d q1
  refine fld_alone (i := 4) (by kernel_rfl) rfl (by rfl) (fun K hK => ?_)
  go_simp
  refine (flag_all g s p2 b2 yes p' bad' W1 H3.out hr1 hx).mono ?_
  rintro e W2 ⟨rfl, hr2, q2⟩
  have h2 := h1.kept q2 (by simp; omega)
  have vr2 := vr1.kept q2 (by simp; omega)
  have k2 := k1.trans q2
  go_wp2_with fail
  refine hK.out _ _ h2 ?_
  clear hK K h1 vr1 hr1 k1 q2
  refine fld_takes [5] _ 1 _ _ _ (by kernel_rfl) (fun _ d _ _ _ h => by cases d <;> exact h) (by rfl) (by kernel_rfl) (by assumption) ?_
  refine fld_taken (v := ?_) rfl (by rfl) (fun w' hw' => ?_) ?_
  rotate_left
  · have hc := Var.cell hw' 0 rfl
    go_simp <;> with_reducible rfl
  simp only [Act.put, List.getElem_toArray, List.getElem_cons_succ, List.getElem_cons_zero, List.setIfInBounds_toArray, List.set_cons_zero, List.set_cons_succ]
  refine fld_taken_nil ?_
  refine fld_alone (i := 6) (by kernel_rfl) rfl (by rfl) (fun K hK => ?_)
  refine wp_store_var (.tmp 2) (.tmp 8) rfl rfl rfl vr2 rfl (by kernel_rfl) (by simp [Value.oneCell']) ?_
  intro W9 v9 o9
  refine hK.out _ _ (o9.var h2 (by omega)) ?_
  refine wpAnyH_done (by kernel_rfl) ?_ _
  have hr9 : Rd 105 W9 g s p' bad' := o9.var hr2 (by omega)
  have k9 := Only.kept k2 o9 (.inr (Nat.le_succ _))
  clear hK K hHeld
  go_wp2
  refine bodyPost_ret (results_var rfl rfl v9 Tryz.underlying32 rfl (by kernel_rfl)) rfl ?_
  exact ⟨none, 0, 0, none, 0, 0, rfl, bare_in _ _ rfl rfl ⟨by simp [markE, noRw, ByteArray.size], by simp [markE, noRw, ByteArray.size]⟩, hr9, k9⟩

set_option maxRecDepth 100000 in
set_option maxHeartbeats 1000000 in
theorem rdrop (g : Nat) (s : ByteArray) (p : Nat) (bad : Bool) (pid ep nx : Int) (p1 p2 : Nat) (b1 b2 : Bool) (p' : Nat) (bad' : Bool) (w : World) (h1 : NumIs s p bad 0 1099511627776 pid p1 b1) (h2 : NumIs s p1 b1 0 1099511627776 ep p2 b2) (h3 : NumIs s p2 b2 0 1099511627776 nx p' bad') (hr : Rd 105 w g s p bad) (hx : s.size ≤ 1000000) (hp : p ≤ s.size) :
    Calls Tryz.prog 67 #[.agg #[.pointer (some ⟨g, 0, none⟩)]] w (EnRd g s (dropE pid ep nx) p' bad' w) := by
  have H1 := Lib.hid h1
  have H2 := Lib.hid h2
  have H3 := Lib.hid h3
  have q1 := h1.le hp
  have q2 := h2.le q1
  clear h1 h2 h3
  obtain ⟨W0, hW0⟩ : ∃ W0, W0 = (w.alloc (.cells #[.pointer (some ⟨g, 0, none⟩)] 89)).alloc (.cells #[.int .i8 0, .int .i64 0, .int .i64 0, .int .i64 0, .bool false, .slice none 0 0, .bool false, .int .i64 0, .int .i64 0, .int .i64 0, .int .i64 0, .int .i64 0, .string ⟨#[]⟩, .string ⟨#[]⟩, .int .i64 0, .int .i64 0, .int .i64 0, .slice none 0 0] 32) := ⟨_, rfl⟩
  obtain ⟨vb, vr, hr0, k0, z0⟩ := rd_two w g #[.int .i8 0, .int .i64 0, .int .i64 0, .int .i64 0, .bool false, .slice none 0 0, .bool false, .int .i64 0, .int .i64 0, .int .i64 0, .int .i64 0, .int .i64 0, .string ⟨#[]⟩, .string ⟨#[]⟩, .int .i64 0, .int .i64 0, .int .i64 0, .slice none 0 0] 32 s p bad hr
  rw [← hW0] at vb vr hr0 k0 z0
  have hgw : g < w.heap.size := Var.lt hr
  have hz0 : w.heap.size + 1 < W0.heap.size := by omega
  have HW0 := Lib.hid hW0
  clear hW0 hr z0
  go_enter Tryz.func67, Tryz.ntmps67
  go_upto_region 1 with fail
  rw [← HW0.out]
  have h0 : Var W0.drew w.heap.size 89 #[.pointer (some ⟨g, 0, none⟩)] := vb
  have vr0 : Var W0.drew (w.heap.size + 1) 32 #[.int .i8 0, .int .i64 0, .int .i64 0, .int .i64 0, .bool false, .slice none 0 0, .bool false, .int .i64 0, .int .i64 0, .int .i64 0, .int .i64 0, .int .i64 0, .string ⟨#[]⟩, .string ⟨#[]⟩, .int .i64 0, .int .i64 0, .int .i64 0, .slice none 0 0] := vr
  have hr0d : Rd 105 W0.drew g s p bad := hr0
  have k0d : Kept [g] w W0.drew := k0.drew
  clear vb vr hr0 k0 HW0
  refine wp_region_held_drew (S := fun w' => Var w' w.heap.size 89 #[.pointer (some ⟨g, 0, none⟩)]) (by kernel_rfl) h0 (fun hHeld => ?_)
  refine fld_takes [0, 2] _ 4 _ _ _ (by kernel_rfl) (fun _ d _ _ _ h => by cases d <;> exact h) (by rfl) (by kernel_rfl) (by assumption) ?_
  refine fld_taken (v := ?_) rfl (by rfl) (fun w' hw' => ?_) ?_
  rotate_left
  · have hc := Var.cell hw' 0 rfl
    go_simp <;> with_reducible rfl
  simp only [Act.put, List.getElem_toArray, List.getElem_cons_zero, List.setIfInBounds_toArray, List.set_cons_zero, List.set_cons_succ]
  refine fld_taken (v := ?_) rfl (by rfl) (fun w' hw' => ?_) ?_
  rotate_left
  · have hc := Var.cell hw' 0 rfl
    go_simp <;> with_reducible rfl
  simp only [Act.put, List.getElem_toArray, List.getElem_cons_succ, List.getElem_cons_zero, List.setIfInBounds_toArray, List.set_cons_zero, List.set_cons_succ]
  refine fld_taken_nil ?_
  refine fld_alone (i := 1) (by kernel_rfl) rfl (by rfl) (fun K hK => ?_)
  go_simp
  refine (rproducer g s p bad p1 b1 pid ep p2 b2 W0.drew H1.out H2.out hr0d hx hp).mono ?_
  rintro e W1 ⟨rfl, hr1, q1⟩
  have h1 := h0.kept q1 (by simp; omega)
  have vr1 := vr0.kept q1 (by simp; omega)
  have k1 := k0d.trans q1
  go_wp2_with fail
  refine hK.out _ _ h1 ?_
  clear hK K h0 vr0 hr0d k0d q1
  refine fld_alone (i := 3) (by kernel_rfl) rfl (by rfl) (fun K hK => ?_)
  go_simp
  refine (rnumber_any g s p2 b2 nx p' bad' W1 H3.out hr1 hx q2).mono ?_
  rintro e W2 ⟨rfl, hr2, q2⟩
  have h2 := h1.kept q2 (by simp; omega)
  have vr2 := vr1.kept q2 (by simp; omega)
  have k2 := k1.trans q2
  go_wp2_with fail
  refine hK.out _ _ h2 ?_
  clear hK K h1 vr1 hr1 k1 q2
  refine fld_takes [4] _ 1 _ _ _ (by kernel_rfl) (fun _ d _ _ _ h => by cases d <;> exact h) (by rfl) (by kernel_rfl) (by assumption) ?_
  refine fld_taken (v := ?_) rfl (by rfl) (fun w' hw' => ?_) ?_
  rotate_left
  · have hc := Var.cell hw' 0 rfl
    go_simp <;> with_reducible rfl
  simp only [Act.put, List.getElem_toArray, List.getElem_cons_succ, List.getElem_cons_zero, List.setIfInBounds_toArray, List.set_cons_zero, List.set_cons_succ]
  refine fld_taken_nil ?_
  refine fld_alone (i := 5) (by kernel_rfl) rfl (by rfl) (fun K hK => ?_)
  refine wp_store_var (.tmp 2) (.tmp 7) rfl rfl rfl vr2 rfl (by kernel_rfl) (by simp [Value.oneCell']) ?_
  intro W9 v9 o9
  refine hK.out _ _ (o9.var h2 (by omega)) ?_
  refine wpAnyH_done (by kernel_rfl) ?_ _
  have hr9 : Rd 105 W9 g s p' bad' := o9.var hr2 (by omega)
  have k9 := Only.kept k2 o9 (.inr (Nat.le_succ _))
  clear hK K hHeld
  go_wp2
  refine bodyPost_ret (results_var rfl rfl v9 Tryz.underlying32 rfl (by kernel_rfl)) rfl ?_
  exact ⟨none, 0, 0, none, 0, 0, rfl, bare_in _ _ rfl rfl ⟨by simp [dropE, noRw, ByteArray.size], by simp [dropE, noRw, ByteArray.size]⟩, hr9, k9⟩

set_option maxRecDepth 100000 in
set_option maxHeartbeats 1000000 in
theorem rrow (g : Nat) (s : ByteArray) (p : Nat) (bad : Bool) (pid sq : Int) (k v : ByteArray) (p1 p2 p3 : Nat) (b1 b2 b3 : Bool) (p' : Nat) (bad' : Bool) (w : World) (h1 : NumIs s p bad 0 1099511627776 pid p1 b1) (h2 : NumIs s p1 b1 0 1099511627776 sq p2 b2) (h3 : TextIs s p2 b2 16 k p3 b3) (h4 : TextIs s p3 b3 16 v p' bad') (hr : Rd 105 w g s p bad) (hx : s.size ≤ 1000000) (hp : p ≤ s.size) :
    Calls Tryz.prog 69 #[.agg #[.pointer (some ⟨g, 0, none⟩)]] w (EnRd g s (rowE pid sq k v) p' bad' w) := by
  have H1 := Lib.hid h1
  have H2 := Lib.hid h2
  have H3 := Lib.hid h3
  have H4 := Lib.hid h4
  have hk := h3.small
  have hv := h4.small
  have q1 := h1.le hp
  have q2 := h2.le q1
  have q3 := h3.le q2
  clear h1 h2 h3 h4
  obtain ⟨W0, hW0⟩ : ∃ W0, W0 = (w.alloc (.cells #[.pointer (some ⟨g, 0, none⟩)] 89)).alloc (.cells #[.int .i8 0, .int .i64 0, .int .i64 0, .int .i64 0, .bool false, .slice none 0 0, .bool false, .int .i64 0, .int .i64 0, .int .i64 0, .int .i64 0, .int .i64 0, .string ⟨#[]⟩, .string ⟨#[]⟩, .int .i64 0, .int .i64 0, .int .i64 0, .slice none 0 0] 32) := ⟨_, rfl⟩
  obtain ⟨vb, vr, hr0, k0, z0⟩ := rd_two w g #[.int .i8 0, .int .i64 0, .int .i64 0, .int .i64 0, .bool false, .slice none 0 0, .bool false, .int .i64 0, .int .i64 0, .int .i64 0, .int .i64 0, .int .i64 0, .string ⟨#[]⟩, .string ⟨#[]⟩, .int .i64 0, .int .i64 0, .int .i64 0, .slice none 0 0] 32 s p bad hr
  rw [← hW0] at vb vr hr0 k0 z0
  have hgw : g < w.heap.size := Var.lt hr
  have hz0 : w.heap.size + 1 < W0.heap.size := by omega
  have HW0 := Lib.hid hW0
  clear hW0 hr z0
  go_enter Tryz.func69, Tryz.ntmps69
  go_upto_region 1 with fail
  rw [← HW0.out]
  have h0 : Var W0.drew w.heap.size 89 #[.pointer (some ⟨g, 0, none⟩)] := vb
  have vr0 : Var W0.drew (w.heap.size + 1) 32 #[.int .i8 0, .int .i64 0, .int .i64 0, .int .i64 0, .bool false, .slice none 0 0, .bool false, .int .i64 0, .int .i64 0, .int .i64 0, .int .i64 0, .int .i64 0, .string ⟨#[]⟩, .string ⟨#[]⟩, .int .i64 0, .int .i64 0, .int .i64 0, .slice none 0 0] := vr
  have hr0d : Rd 105 W0.drew g s p bad := hr0
  have k0d : Kept [g] w W0.drew := k0.drew
  clear vb vr hr0 k0 HW0
  refine wp_region_held_drew (S := fun w' => Var w' w.heap.size 89 #[.pointer (some ⟨g, 0, none⟩)]) (by kernel_rfl) h0 (fun hHeld => ?_)
  refine fld_takes [0, 2, 4, 5, 7, 8] _ 7 _ _ _ (by kernel_rfl) (fun _ d _ _ _ h => by cases d <;> exact h) (by rfl) (by kernel_rfl) (by assumption) ?_
  refine fld_taken (v := ?_) rfl (by rfl) (fun w' hw' => ?_) ?_
  rotate_left
  · have hc := Var.cell hw' 0 rfl
    go_simp <;> with_reducible rfl
  simp only [Act.put, List.getElem_toArray, List.getElem_cons_zero, List.setIfInBounds_toArray, List.set_cons_zero, List.set_cons_succ]
  refine fld_taken (v := ?_) rfl (by rfl) (fun w' hw' => ?_) ?_
  rotate_left
  · have hc := Var.cell hw' 0 rfl
    go_simp <;> with_reducible rfl
  simp only [Act.put, List.getElem_toArray, List.getElem_cons_succ, List.getElem_cons_zero, List.setIfInBounds_toArray, List.set_cons_zero, List.set_cons_succ]
  refine fld_taken (v := ?_) rfl (by rfl) (fun w' hw' => ?_) ?_
  rotate_left
  · have hc := Var.cell hw' 0 rfl
    go_simp <;> with_reducible rfl
  simp only [Act.put, List.getElem_toArray, List.getElem_cons_succ, List.getElem_cons_zero, List.setIfInBounds_toArray, List.set_cons_zero, List.set_cons_succ]
  refine fld_taken (v := ?_) rfl (by rfl) (fun w' hw' => ?_) ?_
  rotate_left
  · have hc := Var.cell hw' 0 rfl
    go_simp <;> with_reducible rfl
  simp only [Act.put, List.getElem_toArray, List.getElem_cons_succ, List.getElem_cons_zero, List.setIfInBounds_toArray, List.set_cons_zero, List.set_cons_succ]
  refine fld_taken (v := ?_) rfl (by rfl) (fun w' hw' => ?_) ?_
  rotate_left
  · have hc := Var.cell hw' 0 rfl
    go_simp <;> with_reducible rfl
  simp only [Act.put, List.getElem_toArray, List.getElem_cons_succ, List.getElem_cons_zero, List.setIfInBounds_toArray, List.set_cons_zero, List.set_cons_succ]
  refine fld_taken (v := ?_) rfl (by rfl) (fun w' hw' => ?_) ?_
  rotate_left
  · have hc := Var.cell hw' 0 rfl
    go_simp <;> with_reducible rfl
  simp only [Act.put, List.getElem_toArray, List.getElem_cons_succ, List.getElem_cons_zero, List.setIfInBounds_toArray, List.set_cons_zero, List.set_cons_succ]
  refine fld_taken_nil ?_
  refine fld_alone (i := 1) (by kernel_rfl) rfl (by rfl) (fun K hK => ?_)
  go_simp
  refine (rnumber_any g s p bad pid p1 b1 W0.drew H1.out hr0d hx hp).mono ?_
  rintro e W1 ⟨rfl, hr1, q1⟩
  have h1 := h0.kept q1 (by simp; omega)
  have vr1 := vr0.kept q1 (by simp; omega)
  have k1 := k0d.trans q1
  go_wp2_with fail
  refine hK.out _ _ h1 ?_
  clear hK K h0 vr0 hr0d k0d q1
  refine fld_alone (i := 3) (by kernel_rfl) rfl (by rfl) (fun K hK => ?_)
  go_simp
  refine (rnumber_any g s p1 b1 sq p2 b2 W1 H2.out hr1 hx q1).mono ?_
  rintro e W2 ⟨rfl, hr2, q2⟩
  have h2 := h1.kept q2 (by simp; omega)
  have vr2 := vr1.kept q2 (by simp; omega)
  have k2 := k1.trans q2
  go_wp2_with fail
  refine hK.out _ _ h2 ?_
  clear hK K h1 vr1 hr1 k1 q2
  refine fld_alone (i := 6) (by kernel_rfl) rfl (by rfl) (fun K hK => ?_)
  go_simp
  refine (text_all g s p2 b2 16 k p3 b3 W2 H3.out hr2 hx q2).mono ?_
  rintro e W3 ⟨rfl, hr3, q3⟩
  have h3 := h2.kept q3 (by simp; omega)
  have vr3 := vr2.kept q3 (by simp; omega)
  have k3 := k2.trans q3
  go_wp2_with fail
  refine hK.out _ _ h3 ?_
  clear hK K h2 vr2 hr2 k2 q3
  refine fld_alone (i := 9) (by kernel_rfl) rfl (by rfl) (fun K hK => ?_)
  go_simp
  refine (text_all g s p3 b3 16 v p' bad' W3 H4.out hr3 hx q3).mono ?_
  rintro e W4 ⟨rfl, hr4, q4⟩
  have h4 := h3.kept q4 (by simp; omega)
  have vr4 := vr3.kept q4 (by simp; omega)
  have k4 := k3.trans q4
  go_wp2_with fail
  refine hK.out _ _ h4 ?_
  clear hK K h3 vr3 hr3 k3 q4
  refine fld_takes [10, 11] _ 1 _ _ _ (by kernel_rfl) (fun _ d _ _ _ h => by cases d <;> exact h) (by rfl) (by kernel_rfl) (by assumption) ?_
  refine fld_taken (v := ?_) rfl (by rfl) (fun w' hw' => ?_) ?_
  rotate_left
  · have hc := Var.cell hw' 0 rfl
    go_simp <;> with_reducible rfl
  simp only [Act.put, List.getElem_toArray, List.getElem_cons_succ, List.getElem_cons_zero, List.setIfInBounds_toArray, List.set_cons_zero, List.set_cons_succ]
  refine fld_taken (v := ?_) rfl (by rfl) (fun w' hw' => ?_) ?_
  rotate_left
  · have hc := Var.cell hw' 0 rfl
    go_simp <;> with_reducible rfl
  simp only [Act.put, List.getElem_toArray, List.getElem_cons_succ, List.getElem_cons_zero, List.setIfInBounds_toArray, List.set_cons_zero, List.set_cons_succ]
  refine fld_taken_nil ?_
  refine fld_alone (i := 12) (by kernel_rfl) rfl (by rfl) (fun K hK => ?_)
  refine wp_store_var (.tmp 2) (.tmp 14) rfl rfl rfl vr4 rfl (by kernel_rfl) (by simp [Value.oneCell']) ?_
  intro W9 v9 o9
  refine hK.out _ _ (o9.var h4 (by omega)) ?_
  refine wpAnyH_done (by kernel_rfl) ?_ _
  have hr9 : Rd 105 W9 g s p' bad' := o9.var hr4 (by omega)
  have k9 := Only.kept k4 o9 (.inr (Nat.le_succ _))
  clear hK K hHeld
  go_wp2
  refine bodyPost_ret (results_var rfl rfl v9 Tryz.underlying32 rfl (by kernel_rfl)) rfl ?_
  exact ⟨none, 0, 0, none, 0, 0, rfl, bare_in _ _ rfl rfl ⟨hk, hv⟩, hr9, k9⟩

set_option maxRecDepth 100000 in
set_option maxHeartbeats 1000000 in
theorem rcut (g : Nat) (s : ByteArray) (p : Nat) (bad : Bool) (off : Int) (p' : Nat) (bad' : Bool) (w : World) (h1 : NumIs s p bad 0 1099511627776 off p' bad') (hr : Rd 105 w g s p bad) (hx : s.size ≤ 1000000) (hp : p ≤ s.size) :
    Calls Tryz.prog 63 #[.agg #[.pointer (some ⟨g, 0, none⟩)]] w (EnRd g s (cutE off) p' bad' w) := by
  have H1 := Lib.hid h1
  clear h1
  obtain ⟨W0, hW0⟩ : ∃ W0, W0 = (w.alloc (.cells #[.pointer (some ⟨g, 0, none⟩)] 89)).alloc (.cells #[.int .i8 0, .int .i64 0, .int .i64 0, .int .i64 0, .bool false, .slice none 0 0, .bool false, .int .i64 0, .int .i64 0, .int .i64 0, .int .i64 0, .int .i64 0, .string ⟨#[]⟩, .string ⟨#[]⟩, .int .i64 0, .int .i64 0, .int .i64 0, .slice none 0 0] 32) := ⟨_, rfl⟩
  obtain ⟨vb, vr, hr0, k0, z0⟩ := rd_two w g #[.int .i8 0, .int .i64 0, .int .i64 0, .int .i64 0, .bool false, .slice none 0 0, .bool false, .int .i64 0, .int .i64 0, .int .i64 0, .int .i64 0, .int .i64 0, .string ⟨#[]⟩, .string ⟨#[]⟩, .int .i64 0, .int .i64 0, .int .i64 0, .slice none 0 0] 32 s p bad hr
  rw [← hW0] at vb vr hr0 k0 z0
  have hgw : g < w.heap.size := Var.lt hr
  have hz0 : w.heap.size + 1 < W0.heap.size := by omega
  have HW0 := Lib.hid hW0
  clear hW0 hr z0
  go_enter Tryz.func63, Tryz.ntmps63
  go_upto_region 1 with fail
  rw [← HW0.out]
  have hcc := vb.cell 0 rfl
  have hcl := vb.lt
  go_wp2_with fail
  refine (rnumber_any g s p bad off p' bad' W0 H1.out hr0 hx hp).mono ?_
  rintro e W1 ⟨rfl, hr1, q1⟩
  have vr1 := vr.kept q1 (by simp; omega)
  clear vb vr hr0 hcc hcl HW0
  go_wp2_with (refine wpList_store_var rfl _ _ rfl rfl rfl vr1 rfl (by kernel_rfl) (by simp [Value.oneCell']) ?_; intro W9 v9 o9)
  have hr9 : Rd 105 W9 g s p' bad' := o9.var hr1 (by omega)
  have k9 := Only.kept (k0.trans q1) o9 (.inr (Nat.le_succ _))
  refine bodyPost_ret (results_var rfl rfl v9 Tryz.underlying32 rfl (by kernel_rfl)) rfl ?_
  exact ⟨none, 0, 0, none, 0, 0, rfl, bare_in _ _ rfl rfl ⟨by simp [cutE, noRw, ByteArray.size], by simp [cutE, noRw, ByteArray.size]⟩, hr9, k9⟩

set_option maxRecDepth 100000 in
set_option maxHeartbeats 1000000 in
theorem rdata (g : Nat) (s : ByteArray) (p : Nat) (bad : Bool) (b : Bt) (p' : Nat) (bad' : Bool) (w : World) (h1 : TakeIs s p bad b p' bad') (hr : Rd 105 w g s p bad) (hx : s.size ≤ 1000000) (hp : p ≤ s.size) :
    Calls Tryz.prog 59 #[.agg #[.pointer (some ⟨g, 0, none⟩)]] w (EnRd g s (dataE b) p' bad' w) := by
  have H1 := Lib.hid h1
  obtain ⟨hl4, hgd⟩ := h1.small
  clear h1
  obtain ⟨W0, hW0⟩ : ∃ W0, W0 = (w.alloc (.cells #[.pointer (some ⟨g, 0, none⟩)] 89)).alloc (.cells #[.int .i8 0, .int .i64 0, .int .i64 0, .int .i64 0, .bool false, .slice none 0 0, .bool false, .int .i64 0, .int .i64 0, .int .i64 0, .int .i64 0, .int .i64 0, .string ⟨#[]⟩, .string ⟨#[]⟩, .int .i64 0, .int .i64 0, .int .i64 0, .slice none 0 0] 32) := ⟨_, rfl⟩
  obtain ⟨vb, vr, hr0, k0, z0⟩ := rd_two w g #[.int .i8 0, .int .i64 0, .int .i64 0, .int .i64 0, .bool false, .slice none 0 0, .bool false, .int .i64 0, .int .i64 0, .int .i64 0, .int .i64 0, .int .i64 0, .string ⟨#[]⟩, .string ⟨#[]⟩, .int .i64 0, .int .i64 0, .int .i64 0, .slice none 0 0] 32 s p bad hr
  rw [← hW0] at vb vr hr0 k0 z0
  have hgw : g < w.heap.size := Var.lt hr
  have hz0 : w.heap.size + 1 < W0.heap.size := by omega
  have HW0 := Lib.hid hW0
  clear hW0 hr z0
  go_enter Tryz.func59, Tryz.ntmps59
  go_upto_region 1 with fail
  rw [← HW0.out]
  have hcc := vb.cell 0 rfl
  have hcl := vb.lt
  go_wp2_with fail
  refine (take_any g s p bad b p' bad' W0 H1.out hr0 hx hp).mono ?_
  rintro e W1 ⟨A, c, rfl, hr1, ho1, q1⟩
  obtain ⟨pid, ep, sq, tx, rs⟩ := b
  simp only at ho1 hl4 hgd ⊢
  have vr1 := vr.kept q1 (by simp; omega)
  clear vb vr hr0 hcc hcl HW0 H1
  go_wp2_with (refine wpList_store_var rfl _ _ rfl rfl rfl vr1 rfl (by kernel_rfl) (by simp [Value.oneCell']) ?_; intro W9 v9 o9)
  have hr9 : Rd 105 W9 g s p' bad' := o9.var hr1 (by omega)
  have k9 := Only.kept (k0.trans q1) o9 (.inr (Nat.le_succ _))
  refine bodyPost_ret (results_var rfl rfl v9 Tryz.underlying32 rfl (by kernel_rfl)) rfl ?_
  have ho9 := own_down (Only.own ho1 o9 (by omega)) (base' := w.heap.size) (by omega)
  exact ⟨A, rs.length, c, none, 0, 0, rfl, ⟨ho9, World.ownsRow_nil _ _ _ _, rfl, rfl, ⟨hl4, by omega⟩, hgd, ⟨by simp [dataE, noRw, ByteArray.size], by simp [dataE, noRw, ByteArray.size]⟩⟩, hr9, k9⟩
end Go.Proofs.YtchpemgamgcbkaaGreat
