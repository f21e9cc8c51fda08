/-
  Contract of the method by which entry's reader reads a state's fields. Conditions: those that the theorem names.
-/
import Derived.Test.YtchpemgamgcbkaaGreatEntRdS
import Derived.Test.YtchpemgamgcbkaaGreatRecApp
import Derived.Deep.DeepCutAuto
namespace Go
section
variable {P : Program} {ops : Array Oper} {Q : Exit → Act → World → Prop} {md : Region.Mode} {S : World → Prop}
/-- The only two that may come up. -/
theorem fld_two {i j fuel : Nat} {o o' : Oper} {listed : Array Bool} {a : Act} {w : World} (hr : Region.ready md ops listed = [i, j]) (ho : ops[i]? = some o) (ho' : ops[j]? = some o') (hw : Region.wanted o (yielded ops a.tmps) = true) (hw' : Region.wanted o' (yielded ops a.tmps) = true)
    (h : ∀ K' : Act → World → Prop, Shut (∀ a w, S w → wpAnyH P md ops Q S fuel (listed.setIfInBounds i true) a w → K' a w) → Oper.wp P o a w K' Q)
    (h' : ∀ K' : Act → World → Prop, Shut (∀ a w, S w → wpAnyH P md ops Q S fuel (listed.setIfInBounds j true) a w → K' a w) → Oper.wp P o' a w K' Q) : wpAnyH P md ops Q S (fuel + 1) listed a w := by
  refine wpAnyH_ready hr (by simp) (AllReadyH.cons ho (fun K' hK => ?_) (AllReadyH.cons ho' (fun K' hK => ?_) AllReadyH.nil))
  · rw [if_pos hw]
    exact h K' (fun a w hS hW => hK.out a w hS (fun _ => hW))
  · rw [if_pos hw']
    exact h' K' (fun a w hS hW => hK.out a w hS (fun _ => hW))
end
end Go
namespace Go.Proofs.YtchpemgamgcbkaaGreat
open Go.RowKit

theorem wp_append_one {P : Program} {w : World} {o : Oper} {a : Act} {K : Act → World → Prop} {Q : Exit → Act → World → Prop} (s' x : Operand) {t e : TypeId}
    (ho : o.op = .call { callee := .builtin .append, args := #[s', x], argTypes := #[t, t] }) {z : Value} {s bytes : Nat} (ht : P.underlying t = some (.slice e)) (hinfo : (P.info? e).map (fun i => (i.zero, i.size, i.bytes)) = some (some z, s, bytes)) (hzs : z.cells.size = s) (hs0 : 0 < s) (hby : bytes ≤ 1000)
    {base n c B : Nat} {v : Value} {xs news : List Value} {A : Option Addr} (hv : a.eval s' = v) (hx : a.eval x = .slice A 1 c) (hown : w.ownsRow base e s v n xs) (hl : news.length = s) (h1 : ∀ u ∈ news, u.oneCell' = true) (hr : Seen w B A news) (hbase : base ≤ w.heap.size) (hn : n ≤ 1000)
    (h : ∀ A' c' w', w'.ownsRow base e s (.slice A' (n + 1) c') (n + 1) (xs ++ news) → Below base w w' → K (a.put o.dst (.slice A' (n + 1) c')) w') : Oper.wp P o a w K Q := by
  obtain ⟨A', c', w', hrun, k1, k2⟩ := append_one (ty := o.type) (c := c) ht hinfo hzs hs0 hby hown hl h1 hr hbase hn
  unfold Oper.wp execOp
  simp only [ho, resolve, invoke, builtin, Sem.run_bind, Sem.run_pure, Result.andThen_ok, List.map_toArray, List.map_cons, List.map_nil, hv, hx, hrun]
  exact h A' c' w' k1 k2
theorem sn_info0 : (Tryz.prog.info? 75).map (fun i => (i.zero, i.size, i.bytes)) = some (some (.agg #[.int .i64 0, .int .i64 0, .int .i64 0]), 3, 24) := by kernel_rfl

/-- Under way, ahead of the producer's variable. -/
structure Q1 (w wr : World) (g : Nat) (s : ByteArray) (p : Nat) (bad : Bool) : Prop where
  rd : Rd 105 wr g s p bad
  vb : Var wr w.heap.size 89 #[.pointer (some ⟨g, 0, none⟩)]
  vr : Var wr (w.heap.size + 1) 32 zeroE
  kept : Kept [g] w wr
  hg : g < w.heap.size
  hz : w.heap.size + 1 < wr.heap.size
/-- Under way, with the producer's variable in block x. -/
structure Q2 (w wr : World) (g : Nat) (s : ByteArray) (p : Nat) (bad : Bool) (x : Nat) (pid ep nx : Int) (A : Option Addr) (k c : Nat) (l : List Sn) : Prop where
  q : Q1 w wr g s p bad
  v : Var wr x 30 #[.int .i64 pid, .int .i64 ep, .int .i64 nx, .slice A k c]
  own : wr.ownsRow (x + 1) 75 3 (.slice A k c) k (scells l)
  hx : w.heap.size + 1 < x
section
variable {w wr w' : World} {g x : Nat} {s : ByteArray} {p p' : Nat} {bad bad' : Bool} {pid ep nx : Int} {A A' : Option Addr} {k c c' : Nat} {l : List Sn}
theorem Q1.read (h : Q1 w wr g s p bad) (hr : Rd 105 w' g s p' bad') (hk : Kept [g] wr w') : Q1 w w' g s p' bad' :=
  ⟨hr, h.vb.kept hk (by have := h.hg; simp; omega), h.vr.kept hk (by have := h.hg; simp; omega), h.kept.trans hk, h.hg, Nat.lt_of_lt_of_le h.hz hk.size⟩
theorem Q1.next (h : Q1 w wr g s p bad) (hb : Below wr.heap.size wr w') : Q1 w w' g s p bad :=
  ⟨Var.below h.rd hb (Var.lt h.rd), h.vb.below hb h.vb.lt, h.vr.below hb h.vr.lt, h.kept.trans (Kept.of_below hb), h.hg, Nat.lt_of_lt_of_le h.hz hb.size⟩
theorem Q1.fresh (h : Q1 w wr g s p bad) : Q2 w (wr.alloc (.cells #[.int .i64 0, .int .i64 0, .int .i64 0, .slice none 0 0] 30)) g s p bad wr.heap.size 0 0 0 none 0 0 [] :=
  ⟨h.next (below_new _), Var.new _ _ _, World.ownsRow_nil _ _ _ _, h.hz⟩
theorem Q2.read (h : Q2 w wr g s p bad x pid ep nx A k c l) (hr : Rd 105 w' g s p' bad') (hk : Kept [g] wr w') : Q2 w w' g s p' bad' x pid ep nx A k c l :=
  ⟨h.q.read hr hk, h.v.kept hk (by have := h.q.hg; have := h.hx; simp; omega), own_kept h.own hk (by have := h.q.hg; have := h.hx; simp; omega), h.hx⟩
theorem Q2.next (h : Q2 w wr g s p bad x pid ep nx A k c l) (hb : Below wr.heap.size wr w') : Q2 w w' g s p bad x pid ep nx A k c l := ⟨h.q.next hb, h.v.below hb h.v.lt, own_next h.own hb, h.hx⟩
theorem Q2.drew (h : Q2 w wr g s p bad x pid ep nx A k c l) : Q2 w wr.drew g s p bad x pid ep nx A k c l := h.next ((Below.refl _ _).drew)
theorem Q2.set (h : Q2 w wr g s p bad x 0 0 0 none 0 0 []) (hv : Var w' x 30 #[.int .i64 pid, .int .i64 ep, .int .i64 nx, .slice none 0 0]) (ho : Only x wr w') : Q2 w w' g s p bad x pid ep nx none 0 0 [] := by
  have h1 := h.hx
  have h2 := h.q.hg
  exact ⟨⟨ho.var h.q.rd (by omega), ho.var h.q.vb (by omega), ho.var h.q.vr (by omega), Only.kept h.q.kept ho (.inr (by omega)), h.q.hg, by rw [ho.size]; exact h.q.hz⟩, hv, World.ownsRow_nil _ _ _ _, h.hx⟩
theorem Q2.push (h : Q2 w wr g s p bad x pid ep nx A k c l) (hb : Below (x + 1) wr w') {r : Sn} (hown : w'.ownsRow (x + 1) 75 3 (.slice A' (k + 1) c') (k + 1) (scells l ++ scell r)) :
    Q2 w (w'.setCell ⟨x, 3, none⟩ (.slice A' (k + 1) c')) g s p bad x pid ep nx A' (k + 1) c' (l ++ [r]) := by
  have h1 := h.hx
  have h2 := h.q.hg
  refine ⟨⟨Var.other (Var.below h.q.rd hb (by omega)) _ _ (by omega), Var.other (h.q.vb.below hb (by omega)) _ _ (by omega), Var.other (h.q.vr.below hb (by omega)) _ _ (by omega), (kept_low h.q.kept hb (by omega)).setCell (.inr (by simp only; omega)) _, h.q.hg, ?_⟩, ?_, ?_, h.hx⟩
  · have := h.q.hz; have := hb.size; simp only [World.setCell, Array.size_modify]; omega
  · have := (h.v.below hb (by omega)).set 3 (.slice A' (k + 1) c')
    simpa using this
  · rw [scells_append]
    exact own_set (by simpa [scells] using hown) (Nat.lt_succ_self x) _
end

set_option maxRecDepth 100000 in
set_option maxHeartbeats 4000000 in
theorem rstate (g : Nat) (s : ByteArray) (p : Nat) (bad : Bool) (pid ep nx n : Int) (p1 p2 p3 p4 : Nat) (b1 b2 b3 b4 : Bool) (l : List Sn) (p' : Nat) (bad' : Bool) (w : World) (h1 : NumIs s p bad 0 1099511627776 pid p1 b1) (h2 : NumIs s p1 b1 0 1099511627776 ep p2 b2) (h3 : NumIs s p2 b2 0 1099511627776 nx p3 b3) (h4 : NumIs s p3 b3 0 3 n p4 b4) (h5 : SnsIs progLim s n.toNat p4 b4 l p' bad')
    (hr : Rd 105 w g s p bad) (hx : s.size ≤ 1000000) (hp : p ≤ s.size) :
    Calls Tryz.prog 71 #[.agg #[.pointer (some ⟨g, 0, none⟩)]] w (EnRd g s (stateE ⟨pid, ep, nx, l⟩) p' bad' w) := by
  have hn0 := h4.in (by omega)
  obtain ⟨m, rfl⟩ : ∃ m : Nat, n = m := ⟨n.toNat, by omega⟩
  rw [Int.toNat_natCast] at h5
  have hm3 : m ≤ 3 := by omega
  have HL := Lib.hid (SnsIs.length _ h5)
  have q1 := h1.le hp
  have q2 := h2.le q1
  have q3 := h3.le q2
  have q4 := h4.le q3
  have H1 := Lib.hid h1
  have H2 := Lib.hid h2
  have H3 := Lib.hid h3
  have H4 := Lib.hid h4
  have H5 := Lib.hid h5
  clear h1 h2 h3 h4 h5 hn0
  obtain ⟨W0, hW0⟩ : ∃ W0, W0 = (w.alloc (.cells #[.pointer (some ⟨g, 0, none⟩)] 89)).alloc (.cells #[.int .i8 0, .int .i64 0, .int .i64 0, .int .i64 0, .bool false, .slice none 0 0, .bool false, .int .i64 0, .int .i64 0, .int .i64 0, .int .i64 0, .int .i64 0, .string ⟨#[]⟩, .string ⟨#[]⟩, .int .i64 0, .int .i64 0, .int .i64 0, .slice none 0 0] 32) := ⟨_, rfl⟩
  obtain ⟨vb, vr, hr0, k0, z0⟩ := rd_two w g #[.int .i8 0, .int .i64 0, .int .i64 0, .int .i64 0, .bool false, .slice none 0 0, .bool false, .int .i64 0, .int .i64 0, .int .i64 0, .int .i64 0, .int .i64 0, .string ⟨#[]⟩, .string ⟨#[]⟩, .int .i64 0, .int .i64 0, .int .i64 0, .slice none 0 0] 32 s p bad hr
  rw [← hW0] at vb vr hr0 k0 z0
  have st0 : Q1 w W0 g s p bad := ⟨hr0, vb, vr, k0, Var.lt hr, by omega⟩
  have HW0 := Lib.hid hW0
  clear hW0 hr z0 vb vr hr0 k0
  go_enter Tryz.func71, Tryz.ntmps71
  go_upto_region 1 with fail
  rw [← HW0.out]
  clear HW0
  go_cut [3] (fun s3 wx => ∃ x, s3 = .pointer (some ⟨x, 0, none⟩) ∧ Q2 w wx g s p3 b3 x pid ep nx none 0 0 [])
  case first =>
    have st := st0.next (w' := W0.drew) ((Below.refl _ _).drew)
    have hcur := st.vb
    refine wp_region_held_drew (S := fun w' => Var w' w.heap.size 89 #[.pointer (some ⟨g, 0, none⟩)]) (by kernel_rfl) hcur (fun hHeld => ?_)
    clear hHeld st0
    generalize W0.drew = Wc at st hcur ⊢
    refine fld_takes [0, 2, 4] _ 6 _ _ _ (by kernel_rfl) (fun _ d _ _ _ h => by cases d <;> exact h) (by rfl) (by kernel_rfl) (by assumption) ?_
    refine fld_taken (v := ?_) rfl (by rfl) (fun w' hw' => ?_) ?_
    rotate_left
    · have hc := Var.cell hw' 0 rfl
      go_simp <;> with_reducible rfl
    simp only [Act.put, List.getElem_toArray, List.getElem_cons_zero, List.setIfInBounds_toArray, List.set_cons_zero, List.set_cons_succ]
    refine fld_taken (v := ?_) rfl (by rfl) (fun w' hw' => ?_) ?_
    rotate_left
    · have hc := Var.cell hw' 0 rfl
      go_simp <;> with_reducible rfl
    simp only [Act.put, List.getElem_toArray, List.getElem_cons_succ, List.getElem_cons_zero, List.setIfInBounds_toArray, List.set_cons_zero, List.set_cons_succ]
    refine fld_taken (v := ?_) rfl (by rfl) (fun w' hw' => ?_) ?_
    rotate_left
    · have hc := Var.cell hw' 0 rfl
      go_simp <;> with_reducible rfl
    simp only [Act.put, List.getElem_toArray, List.getElem_cons_succ, List.getElem_cons_zero, List.setIfInBounds_toArray, List.set_cons_zero, List.set_cons_succ]
    refine fld_taken_nil ?_
    refine fld_two (i := 1) (j := 7) (by kernel_rfl) rfl rfl (by rfl) (by rfl) (fun K hK => ?_) (fun K hK => ?_)
    · go_simp
      refine (rnumber_any g s p bad pid p1 b1 _ H1.out st.rd hx hp).mono ?_
      rintro e Wc ⟨rfl, hr, hk⟩
      have st := st.read hr hk
      clear hr hk
      go_wp2_with fail
      have hcur := st.vb
      refine hK.out _ _ hcur ?_
      clear hK K
      refine fld_two (i := 3) (j := 7) (by kernel_rfl) rfl rfl (by rfl) (by rfl) (fun K hK => ?_) (fun K hK => ?_)
      · go_simp
        refine (rnumber_any g s p1 b1 ep p2 b2 _ H2.out st.rd hx q1).mono ?_
        rintro e Wc ⟨rfl, hr, hk⟩
        have st := st.read hr hk
        clear hr hk
        go_wp2_with fail
        have hcur := st.vb
        refine hK.out _ _ hcur ?_
        clear hK K
        refine fld_two (i := 5) (j := 7) (by kernel_rfl) rfl rfl (by rfl) (by rfl) (fun K hK => ?_) (fun K hK => ?_)
        · go_simp
          refine (rnumber_any g s p2 b2 nx p3 b3 _ H3.out st.rd hx q2).mono ?_
          rintro e Wc ⟨rfl, hr, hk⟩
          have st := st.read hr hk
          clear hr hk
          go_wp2_with fail
          have hcur := st.vb
          refine hK.out _ _ hcur ?_
          clear hK K
          refine fld_takes [6] _ 2 _ _ _ (by kernel_rfl) (fun _ d _ _ _ h => by cases d <;> exact h) (by rfl) (by kernel_rfl) (by assumption) ?_
          refine fld_taken (v := ?_) rfl (by rfl) (fun w' hw' => ?_) ?_
          rotate_left
          · have hc := Var.cell hw' 0 rfl
            go_simp <;> with_reducible rfl
          simp only [Act.put, List.getElem_toArray, List.getElem_cons_succ, List.getElem_cons_zero, List.setIfInBounds_toArray, List.set_cons_zero, List.set_cons_succ]
          refine fld_taken_nil ?_
          refine fld_alone (i := 7) (by kernel_rfl) rfl (by rfl) (fun K hK => ?_)
          go_wp2_with fail
          obtain ⟨x, hxx⟩ : ∃ x, x = Wc.heap.size := ⟨_, rfl⟩
          obtain ⟨Wn, hWn⟩ : ∃ Wn, Wn = Wc.alloc (.cells #[.int .i64 0, .int .i64 0, .int .i64 0, .slice none 0 0] 30) := ⟨_, rfl⟩
          have st := st.fresh
          rw [← hWn, ← hxx] at st
          rw [← hWn, ← hxx]
          clear hWn hxx
          obtain ⟨Wc, hWc⟩ : ∃ Wc, Wc = Wn := ⟨_, rfl⟩
          subst hWc
          have hcur := st.q.vb
          refine hK.out _ _ hcur ?_
          clear hK K
          refine fld_alone (i := 8) (by kernel_rfl) rfl (by rfl) (fun K hK => ?_)
          refine wp_store_var (.tmp 3) (.tmp 10) rfl rfl rfl st.v rfl (by kernel_rfl) (by simp [Value.oneCell']) ?_
          intro Wc v9 o9
          have st := st.set v9 o9
          have hcur := st.q.vb
          refine hK.out _ _ hcur ?_
          clear hK K
          refine wpAnyH_done (by kernel_rfl) ?_ _
          go_wp2_with fail
          go_meet
          exact ⟨x, rfl, st⟩

        · go_wp2_with fail
          obtain ⟨x, hxx⟩ : ∃ x, x = Wc.heap.size := ⟨_, rfl⟩
          obtain ⟨Wn, hWn⟩ : ∃ Wn, Wn = Wc.alloc (.cells #[.int .i64 0, .int .i64 0, .int .i64 0, .slice none 0 0] 30) := ⟨_, rfl⟩
          have st := st.fresh
          rw [← hWn, ← hxx] at st
          rw [← hWn, ← hxx]
          clear hWn hxx
          obtain ⟨Wc, hWc⟩ : ∃ Wc, Wc = Wn := ⟨_, rfl⟩
          subst hWc
          have hcur := st.q.vb
          refine hK.out _ _ hcur ?_
          clear hK K
          refine fld_alone (i := 5) (by kernel_rfl) rfl (by rfl) (fun K hK => ?_)
          go_simp
          refine (rnumber_any g s p2 b2 nx p3 b3 _ H3.out st.q.rd hx q2).mono ?_
          rintro e Wc ⟨rfl, hr, hk⟩
          have st := st.read hr hk
          clear hr hk
          go_wp2_with fail
          have hcur := st.q.vb
          refine hK.out _ _ hcur ?_
          clear hK K
          refine fld_takes [6] _ 1 _ _ _ (by kernel_rfl) (fun _ d _ _ _ h => by cases d <;> exact h) (by rfl) (by kernel_rfl) (by assumption) ?_
          refine fld_taken (v := ?_) rfl (by rfl) (fun w' hw' => ?_) ?_
          rotate_left
          · have hc := Var.cell hw' 0 rfl
            go_simp <;> with_reducible rfl
          simp only [Act.put, List.getElem_toArray, List.getElem_cons_succ, List.getElem_cons_zero, List.setIfInBounds_toArray, List.set_cons_zero, List.set_cons_succ]
          refine fld_taken_nil ?_
          refine fld_alone (i := 8) (by kernel_rfl) rfl (by rfl) (fun K hK => ?_)
          refine wp_store_var (.tmp 3) (.tmp 10) rfl rfl rfl st.v rfl (by kernel_rfl) (by simp [Value.oneCell']) ?_
          intro Wc v9 o9
          have st := st.set v9 o9
          have hcur := st.q.vb
          refine hK.out _ _ hcur ?_
          clear hK K
          refine wpAnyH_done (by kernel_rfl) ?_ _
          go_wp2_with fail
          go_meet
          exact ⟨x, rfl, st⟩

      · go_wp2_with fail
        obtain ⟨x, hxx⟩ : ∃ x, x = Wc.heap.size := ⟨_, rfl⟩
        obtain ⟨Wn, hWn⟩ : ∃ Wn, Wn = Wc.alloc (.cells #[.int .i64 0, .int .i64 0, .int .i64 0, .slice none 0 0] 30) := ⟨_, rfl⟩
        have st := st.fresh
        rw [← hWn, ← hxx] at st
        rw [← hWn, ← hxx]
        clear hWn hxx
        obtain ⟨Wc, hWc⟩ : ∃ Wc, Wc = Wn := ⟨_, rfl⟩
        subst hWc
        have hcur := st.q.vb
        refine hK.out _ _ hcur ?_
        clear hK K
        refine fld_alone (i := 3) (by kernel_rfl) rfl (by rfl) (fun K hK => ?_)
        go_simp
        refine (rnumber_any g s p1 b1 ep p2 b2 _ H2.out st.q.rd hx q1).mono ?_
        rintro e Wc ⟨rfl, hr, hk⟩
        have st := st.read hr hk
        clear hr hk
        go_wp2_with fail
        have hcur := st.q.vb
        refine hK.out _ _ hcur ?_
        clear hK K
        refine fld_alone (i := 5) (by kernel_rfl) rfl (by rfl) (fun K hK => ?_)
        go_simp
        refine (rnumber_any g s p2 b2 nx p3 b3 _ H3.out st.q.rd hx q2).mono ?_
        rintro e Wc ⟨rfl, hr, hk⟩
        have st := st.read hr hk
        clear hr hk
        go_wp2_with fail
        have hcur := st.q.vb
        refine hK.out _ _ hcur ?_
        clear hK K
        refine fld_takes [6] _ 1 _ _ _ (by kernel_rfl) (fun _ d _ _ _ h => by cases d <;> exact h) (by rfl) (by kernel_rfl) (by assumption) ?_
        refine fld_taken (v := ?_) rfl (by rfl) (fun w' hw' => ?_) ?_
        rotate_left
        · have hc := Var.cell hw' 0 rfl
          go_simp <;> with_reducible rfl
        simp only [Act.put, List.getElem_toArray, List.getElem_cons_succ, List.getElem_cons_zero, List.setIfInBounds_toArray, List.set_cons_zero, List.set_cons_succ]
        refine fld_taken_nil ?_
        refine fld_alone (i := 8) (by kernel_rfl) rfl (by rfl) (fun K hK => ?_)
        refine wp_store_var (.tmp 3) (.tmp 10) rfl rfl rfl st.v rfl (by kernel_rfl) (by simp [Value.oneCell']) ?_
        intro Wc v9 o9
        have st := st.set v9 o9
        have hcur := st.q.vb
        refine hK.out _ _ hcur ?_
        clear hK K
        refine wpAnyH_done (by kernel_rfl) ?_ _
        go_wp2_with fail
        go_meet
        exact ⟨x, rfl, st⟩

    · go_wp2_with fail
      obtain ⟨x, hxx⟩ : ∃ x, x = Wc.heap.size := ⟨_, rfl⟩
      obtain ⟨Wn, hWn⟩ : ∃ Wn, Wn = Wc.alloc (.cells #[.int .i64 0, .int .i64 0, .int .i64 0, .slice none 0 0] 30) := ⟨_, rfl⟩
      have st := st.fresh
      rw [← hWn, ← hxx] at st
      rw [← hWn, ← hxx]
      clear hWn hxx
      obtain ⟨Wc, hWc⟩ : ∃ Wc, Wc = Wn := ⟨_, rfl⟩
      subst hWc
      have hcur := st.q.vb
      refine hK.out _ _ hcur ?_
      clear hK K
      refine fld_alone (i := 1) (by kernel_rfl) rfl (by rfl) (fun K hK => ?_)
      go_simp
      refine (rnumber_any g s p bad pid p1 b1 _ H1.out st.q.rd hx hp).mono ?_
      rintro e Wc ⟨rfl, hr, hk⟩
      have st := st.read hr hk
      clear hr hk
      go_wp2_with fail
      have hcur := st.q.vb
      refine hK.out _ _ hcur ?_
      clear hK K
      refine fld_alone (i := 3) (by kernel_rfl) rfl (by rfl) (fun K hK => ?_)
      go_simp
      refine (rnumber_any g s p1 b1 ep p2 b2 _ H2.out st.q.rd hx q1).mono ?_
      rintro e Wc ⟨rfl, hr, hk⟩
      have st := st.read hr hk
      clear hr hk
      go_wp2_with fail
      have hcur := st.q.vb
      refine hK.out _ _ hcur ?_
      clear hK K
      refine fld_alone (i := 5) (by kernel_rfl) rfl (by rfl) (fun K hK => ?_)
      go_simp
      refine (rnumber_any g s p2 b2 nx p3 b3 _ H3.out st.q.rd hx q2).mono ?_
      rintro e Wc ⟨rfl, hr, hk⟩
      have st := st.read hr hk
      clear hr hk
      go_wp2_with fail
      have hcur := st.q.vb
      refine hK.out _ _ hcur ?_
      clear hK K
      refine fld_takes [6] _ 1 _ _ _ (by kernel_rfl) (fun _ d _ _ _ h => by cases d <;> exact h) (by rfl) (by kernel_rfl) (by assumption) ?_
      refine fld_taken (v := ?_) rfl (by rfl) (fun w' hw' => ?_) ?_
      rotate_left
      · have hc := Var.cell hw' 0 rfl
        go_simp <;> with_reducible rfl
      simp only [Act.put, List.getElem_toArray, List.getElem_cons_succ, List.getElem_cons_zero, List.setIfInBounds_toArray, List.set_cons_zero, List.set_cons_succ]
      refine fld_taken_nil ?_
      refine fld_alone (i := 8) (by kernel_rfl) rfl (by rfl) (fun K hK => ?_)
      refine wp_store_var (.tmp 3) (.tmp 10) rfl rfl rfl st.v rfl (by kernel_rfl) (by simp [Value.oneCell']) ?_
      intro Wc v9 o9
      have st := st.set v9 o9
      have hcur := st.q.vb
      refine hK.out _ _ hcur ?_
      clear hK K
      refine wpAnyH_done (by kernel_rfl) ?_ _
      go_wp2_with fail
      go_meet
      exact ⟨x, rfl, st⟩
  case rest =>
    obtain ⟨x, rfl, st⟩ := hcut
    clear st0
    have hcc := st.q.vb.cell 0 rfl
    have hcl := st.q.vb.lt
    go_wp2_with fail
    refine (number_all g s p3 b3 0 3 m p4 b4 _ H4.out st.q.rd hx q3).mono ?_
    rintro e W2 ⟨rfl, hr2, k2⟩
    have st2 := st.read hr2 k2
    clear st hr2 k2 hcc hcl
    go_wp2_with fail
    go_loopw [14] (fun i wr => ∃ (k pk ck : Nat) (bk : Bool) (Ak : Option Addr) (done rest : List Sn), k ≤ m ∧ i = .int .i64 k ∧ pk ≤ s.size ∧ Q2 w wr g s pk bk x pid ep nx Ak k ck done ∧ Hid (SnsIs progLim s (m - k) pk bk rest p' bad') ∧ Hid (l = done ++ rest)) (fun i _ => m - (intOf i).toNat)
    case atStart => exact ⟨0, p4, 0, b4, none, [], l, by omega, rfl, q4, st2, H5.out, rfl⟩
    case round =>
      clear st2
      obtain ⟨k, pk, ck, bk, Ak, done, rest, hk, rfl, hpk, st, HR, HD⟩ := hrel
      by_cases hlt : k < m
      · obtain ⟨j, hj⟩ : ∃ j, m - k = j + 1 := ⟨m - k - 1, by omega⟩
        have hrec := HR.out
        rw [hj] at hrec
        obtain ⟨sq, pa, ba, cnt, pb, bb, o1, pc, bc, rest2, t1, t2, t3, hrr, hrest⟩ := hrec
        have ho1 := t3.in (by decide)
        obtain ⟨ho2, ho3⟩ := ho1
        simp only [progLim] at t1 t2 t3 ho3
        have T1 := Lib.hid t1
        have T2 := Lib.hid t2
        have T3 := Lib.hid t3
        have HREST : Hid (SnsIs progLim s (m - (k + 1)) pc bc rest2 p' bad') := by show SnsIs _ _ _ _ _ _ _ _; rw [show m - (k + 1) = j by omega]; exact hrest
        have HD2 : Hid (l = (done ++ [⟨sq, cnt, o1 - 1⟩]) ++ rest2) := by show _ = _; rw [HD.out, hrr]; simp
        have hpa := t1.le hpk
        have hpb := t2.le hpa
        have hpc := t3.le hpb
        clear hrest t1 t2 t3 hrr hj HR HD
        go_upto_region 4 with fail
        have st := st.drew
        have hcur := st.q.vb
        refine wp_region_held_drew (S := fun w' => Var w' w.heap.size 89 #[.pointer (some ⟨g, 0, none⟩)]) (by kernel_rfl) hcur (fun hHeld => ?_)
        clear hHeld
        generalize wr.drew = Wc at st hcur ⊢
        refine fld_takes [2, 4, 6, 0] _ 10 _ _ _ (by kernel_rfl) (fun _ d _ _ _ h => by cases d <;> exact h) (by rfl) (by kernel_rfl) (by assumption) ?_
        refine fld_taken (v := ?_) rfl (by rfl) (fun w' hw' => ?_) ?_
        rotate_left
        · have hc := Var.cell hw' 0 rfl
          go_simp <;> with_reducible rfl
        simp only [Act.put, List.getElem_toArray, List.getElem_cons_succ, List.getElem_cons_zero, List.setIfInBounds_toArray, List.set_cons_zero, List.set_cons_succ]
        refine fld_taken (v := ?_) rfl (by rfl) (fun w' hw' => ?_) ?_
        rotate_left
        · have hc := Var.cell hw' 0 rfl
          go_simp <;> with_reducible rfl
        simp only [Act.put, List.getElem_toArray, List.getElem_cons_succ, List.getElem_cons_zero, List.setIfInBounds_toArray, List.set_cons_zero, List.set_cons_succ]
        refine fld_taken (v := ?_) rfl (by rfl) (fun w' hw' => ?_) ?_
        rotate_left
        · have hc := Var.cell hw' 0 rfl
          go_simp <;> with_reducible rfl
        simp only [Act.put, List.getElem_toArray, List.getElem_cons_succ, List.getElem_cons_zero, List.setIfInBounds_toArray, List.set_cons_zero, List.set_cons_succ]
        refine fld_taken (v := ?_) rfl (by rfl) (fun w' hw' => ?_) ?_
        rotate_left
        · have hc := Var.cell hw' 0 rfl
          go_simp <;> with_reducible rfl
        simp only [Act.put, List.getElem_toArray, List.getElem_cons_zero, List.setIfInBounds_toArray, List.set_cons_zero, List.set_cons_succ]
        refine fld_taken_nil ?_
        refine fld_two (i := 1) (j := 3) (by kernel_rfl) rfl rfl (by rfl) (by rfl) (fun K hK => ?_) (fun K hK => ?_)
        · have hc3 := st.v.cell 3 rfl
          have hcl := st.v.lt
          go_wp2_with fail
          clear hc3 hcl
          have hcur := st.q.vb
          refine hK.out _ _ hcur ?_
          clear hK K
          refine fld_alone (i := 3) (by kernel_rfl) rfl (by rfl) (fun K hK => ?_)
          go_simp
          refine (rnumber_any g s pk bk sq pa ba _ T1.out st.q.rd hx hpk).mono ?_
          rintro e Wc ⟨rfl, hr, hk⟩
          have st := st.read hr hk
          clear hr hk
          go_wp2_with fail
          have hcur := st.q.vb
          refine hK.out _ _ hcur ?_
          clear hK K
          refine fld_alone (i := 5) (by kernel_rfl) rfl (by rfl) (fun K hK => ?_)
          go_simp
          refine (rnumber_any g s pa ba cnt pb bb _ T2.out st.q.rd hx hpa).mono ?_
          rintro e Wc ⟨rfl, hr, hk⟩
          have st := st.read hr hk
          clear hr hk
          go_wp2_with fail
          have hcur := st.q.vb
          refine hK.out _ _ hcur ?_
          clear hK K
          refine fld_alone (i := 7) (by kernel_rfl) rfl (by rfl) (fun K hK => ?_)
          go_simp
          refine (rnumber_any g s pb bb o1 pc bc _ T3.out st.q.rd hx hpb).mono ?_
          rintro e Wc ⟨rfl, hr, hk⟩
          have st := st.read hr hk
          clear hr hk
          go_wp2_with fail
          have hcur := st.q.vb
          refine hK.out _ _ hcur ?_
          clear hK K
          refine fld_takes [8, 9] _ 4 _ _ _ (by kernel_rfl) (fun _ d _ _ _ h => by cases d <;> exact h) (by rfl) (by kernel_rfl) (by assumption) ?_
          refine fld_taken (v := ?_) rfl (by rfl) (fun w' hw' => ?_) ?_
          rotate_left
          · have hc := Var.cell hw' 0 rfl
            go_simp <;> with_reducible rfl
          simp only [Act.put, List.getElem_toArray, List.getElem_cons_succ, List.getElem_cons_zero, List.setIfInBounds_toArray, List.set_cons_zero, List.set_cons_succ]
          refine fld_taken (v := ?_) rfl (by rfl) (fun w' hw' => ?_) ?_
          rotate_left
          · have hc := Var.cell hw' 0 rfl
            go_simp <;> with_reducible rfl
          simp only [Act.put, List.getElem_toArray, List.getElem_cons_succ, List.getElem_cons_zero, List.setIfInBounds_toArray, List.set_cons_zero, List.set_cons_succ]
          refine fld_taken_nil ?_
          refine fld_alone (i := 10) (by kernel_rfl) rfl (by rfl) (fun K hK => ?_)
          go_wp2_with fail
          obtain ⟨y, hyy⟩ : ∃ y, y = Wc.heap.size := ⟨_, rfl⟩
          have hsy := (show Seen (Wc.alloc (.cells #[.int .i64 sq, .int .i64 cnt, .int .i64 (o1 - 1)] 75)) (Wc.heap.size + 1) (some ⟨Wc.heap.size, 0, none⟩) (scell ⟨sq, cnt, o1 - 1⟩) from Seen.new Wc (scell ⟨sq, cnt, o1 - 1⟩) 75)
          obtain ⟨Wn, hWn⟩ : ∃ Wn, Wn = Wc.alloc (.cells #[.int .i64 sq, .int .i64 cnt, .int .i64 (o1 - 1)] 75) := ⟨_, rfl⟩
          have st := st.next (below_new (.cells #[.int .i64 sq, .int .i64 cnt, .int .i64 (o1 - 1)] 75))
          rw [← hWn] at st
          rw [← hWn, ← hyy] at hsy
          rw [← hWn, ← hyy]
          clear hWn hyy
          obtain ⟨Wc, hWc⟩ : ∃ Wc, Wc = Wn := ⟨_, rfl⟩
          subst hWc
          have hcur := st.q.vb
          refine hK.out _ _ hcur ?_
          clear hK K
          refine fld_alone (i := 11) (by kernel_rfl) rfl (by rfl) (fun K hK => ?_)
          refine wp_append_one (.tmp 17) (.tmp 26) rfl Tryz.underlying28 sn_info0 rfl (by omega) (by omega) (base := x + 1) (n := k) (c := 1) (B := y + 1) (v := .slice Ak k ck) (xs := scells done) (news := scell ⟨sq, cnt, o1 - 1⟩) (A := some ⟨y, 0, none⟩) rfl rfl st.own rfl (fun u hu => scells_one [_] u (by simpa [scells] using hu)) hsy st.v.lt (by omega) ?_
          intro A9 c9 W9 hown9 hb9
          have v9 := st.v.below hb9 (Nat.lt_succ_self x)
          have hcur : Var W9 w.heap.size 89 #[.pointer (some ⟨g, 0, none⟩)] := st.q.vb.below hb9 (by have := st.hx; omega)
          refine hK.out _ _ hcur ?_
          clear hK K
          refine fld_takes [12] _ 1 _ _ _ (by kernel_rfl) (fun _ d _ _ _ h => by cases d <;> exact h) (by rfl) (by kernel_rfl) (by assumption) ?_
          refine fld_taken (v := ?_) rfl (by rfl) (fun w' hw' => ?_) ?_
          rotate_left
          · have hc := Var.cell hw' 0 rfl
            go_simp <;> with_reducible rfl
          simp only [Act.put, List.getElem_toArray, List.getElem_cons_succ, List.getElem_cons_zero, List.setIfInBounds_toArray, List.set_cons_zero, List.set_cons_succ]
          refine fld_taken_nil ?_
          refine fld_alone (i := 13) (by kernel_rfl) rfl (by rfl) (fun K hK => ?_)
          have hc3 := v9.cell 3 rfl
          have hf3 := v9.free 3
          have hcl := v9.lt
          go_wp2_with fail
          have st := st.push hb9 hown9
          clear hc3 hf3 hcl v9 hb9 hown9 hsy
          have hcur := st.q.vb
          refine hK.out _ _ hcur ?_
          clear hK K
          refine wpAnyH_done (by kernel_rfl) ?_ _
          go_wp2
          go_roundw
          case rel => exact ⟨k + 1, pc, c9, bc, A9, done ++ [⟨sq, cnt, o1 - 1⟩], rest2, by omega, by go_num, hpc, st, HREST, HD2⟩
          case measure => simp [intOf]; omega

        · go_simp
          refine (rnumber_any g s pk bk sq pa ba _ T1.out st.q.rd hx hpk).mono ?_
          rintro e Wc ⟨rfl, hr, hk⟩
          have st := st.read hr hk
          clear hr hk
          go_wp2_with fail
          have hcur := st.q.vb
          refine hK.out _ _ hcur ?_
          clear hK K
          refine fld_two (i := 1) (j := 5) (by kernel_rfl) rfl rfl (by rfl) (by rfl) (fun K hK => ?_) (fun K hK => ?_)
          · have hc3 := st.v.cell 3 rfl
            have hcl := st.v.lt
            go_wp2_with fail
            clear hc3 hcl
            have hcur := st.q.vb
            refine hK.out _ _ hcur ?_
            clear hK K
            refine fld_alone (i := 5) (by kernel_rfl) rfl (by rfl) (fun K hK => ?_)
            go_simp
            refine (rnumber_any g s pa ba cnt pb bb _ T2.out st.q.rd hx hpa).mono ?_
            rintro e Wc ⟨rfl, hr, hk⟩
            have st := st.read hr hk
            clear hr hk
            go_wp2_with fail
            have hcur := st.q.vb
            refine hK.out _ _ hcur ?_
            clear hK K
            refine fld_alone (i := 7) (by kernel_rfl) rfl (by rfl) (fun K hK => ?_)
            go_simp
            refine (rnumber_any g s pb bb o1 pc bc _ T3.out st.q.rd hx hpb).mono ?_
            rintro e Wc ⟨rfl, hr, hk⟩
            have st := st.read hr hk
            clear hr hk
            go_wp2_with fail
            have hcur := st.q.vb
            refine hK.out _ _ hcur ?_
            clear hK K
            refine fld_takes [8, 9] _ 4 _ _ _ (by kernel_rfl) (fun _ d _ _ _ h => by cases d <;> exact h) (by rfl) (by kernel_rfl) (by assumption) ?_
            refine fld_taken (v := ?_) rfl (by rfl) (fun w' hw' => ?_) ?_
            rotate_left
            · have hc := Var.cell hw' 0 rfl
              go_simp <;> with_reducible rfl
            simp only [Act.put, List.getElem_toArray, List.getElem_cons_succ, List.getElem_cons_zero, List.setIfInBounds_toArray, List.set_cons_zero, List.set_cons_succ]
            refine fld_taken (v := ?_) rfl (by rfl) (fun w' hw' => ?_) ?_
            rotate_left
            · have hc := Var.cell hw' 0 rfl
              go_simp <;> with_reducible rfl
            simp only [Act.put, List.getElem_toArray, List.getElem_cons_succ, List.getElem_cons_zero, List.setIfInBounds_toArray, List.set_cons_zero, List.set_cons_succ]
            refine fld_taken_nil ?_
            refine fld_alone (i := 10) (by kernel_rfl) rfl (by rfl) (fun K hK => ?_)
            go_wp2_with fail
            obtain ⟨y, hyy⟩ : ∃ y, y = Wc.heap.size := ⟨_, rfl⟩
            have hsy := (show Seen (Wc.alloc (.cells #[.int .i64 sq, .int .i64 cnt, .int .i64 (o1 - 1)] 75)) (Wc.heap.size + 1) (some ⟨Wc.heap.size, 0, none⟩) (scell ⟨sq, cnt, o1 - 1⟩) from Seen.new Wc (scell ⟨sq, cnt, o1 - 1⟩) 75)
            obtain ⟨Wn, hWn⟩ : ∃ Wn, Wn = Wc.alloc (.cells #[.int .i64 sq, .int .i64 cnt, .int .i64 (o1 - 1)] 75) := ⟨_, rfl⟩
            have st := st.next (below_new (.cells #[.int .i64 sq, .int .i64 cnt, .int .i64 (o1 - 1)] 75))
            rw [← hWn] at st
            rw [← hWn, ← hyy] at hsy
            rw [← hWn, ← hyy]
            clear hWn hyy
            obtain ⟨Wc, hWc⟩ : ∃ Wc, Wc = Wn := ⟨_, rfl⟩
            subst hWc
            have hcur := st.q.vb
            refine hK.out _ _ hcur ?_
            clear hK K
            refine fld_alone (i := 11) (by kernel_rfl) rfl (by rfl) (fun K hK => ?_)
            refine wp_append_one (.tmp 17) (.tmp 26) rfl Tryz.underlying28 sn_info0 rfl (by omega) (by omega) (base := x + 1) (n := k) (c := 1) (B := y + 1) (v := .slice Ak k ck) (xs := scells done) (news := scell ⟨sq, cnt, o1 - 1⟩) (A := some ⟨y, 0, none⟩) rfl rfl st.own rfl (fun u hu => scells_one [_] u (by simpa [scells] using hu)) hsy st.v.lt (by omega) ?_
            intro A9 c9 W9 hown9 hb9
            have v9 := st.v.below hb9 (Nat.lt_succ_self x)
            have hcur : Var W9 w.heap.size 89 #[.pointer (some ⟨g, 0, none⟩)] := st.q.vb.below hb9 (by have := st.hx; omega)
            refine hK.out _ _ hcur ?_
            clear hK K
            refine fld_takes [12] _ 1 _ _ _ (by kernel_rfl) (fun _ d _ _ _ h => by cases d <;> exact h) (by rfl) (by kernel_rfl) (by assumption) ?_
            refine fld_taken (v := ?_) rfl (by rfl) (fun w' hw' => ?_) ?_
            rotate_left
            · have hc := Var.cell hw' 0 rfl
              go_simp <;> with_reducible rfl
            simp only [Act.put, List.getElem_toArray, List.getElem_cons_succ, List.getElem_cons_zero, List.setIfInBounds_toArray, List.set_cons_zero, List.set_cons_succ]
            refine fld_taken_nil ?_
            refine fld_alone (i := 13) (by kernel_rfl) rfl (by rfl) (fun K hK => ?_)
            have hc3 := v9.cell 3 rfl
            have hf3 := v9.free 3
            have hcl := v9.lt
            go_wp2_with fail
            have st := st.push hb9 hown9
            clear hc3 hf3 hcl v9 hb9 hown9 hsy
            have hcur := st.q.vb
            refine hK.out _ _ hcur ?_
            clear hK K
            refine wpAnyH_done (by kernel_rfl) ?_ _
            go_wp2
            go_roundw
            case rel => exact ⟨k + 1, pc, c9, bc, A9, done ++ [⟨sq, cnt, o1 - 1⟩], rest2, by omega, by go_num, hpc, st, HREST, HD2⟩
            case measure => simp [intOf]; omega

          · go_simp
            refine (rnumber_any g s pa ba cnt pb bb _ T2.out st.q.rd hx hpa).mono ?_
            rintro e Wc ⟨rfl, hr, hk⟩
            have st := st.read hr hk
            clear hr hk
            go_wp2_with fail
            have hcur := st.q.vb
            refine hK.out _ _ hcur ?_
            clear hK K
            refine fld_two (i := 1) (j := 7) (by kernel_rfl) rfl rfl (by rfl) (by rfl) (fun K hK => ?_) (fun K hK => ?_)
            · have hc3 := st.v.cell 3 rfl
              have hcl := st.v.lt
              go_wp2_with fail
              clear hc3 hcl
              have hcur := st.q.vb
              refine hK.out _ _ hcur ?_
              clear hK K
              refine fld_alone (i := 7) (by kernel_rfl) rfl (by rfl) (fun K hK => ?_)
              go_simp
              refine (rnumber_any g s pb bb o1 pc bc _ T3.out st.q.rd hx hpb).mono ?_
              rintro e Wc ⟨rfl, hr, hk⟩
              have st := st.read hr hk
              clear hr hk
              go_wp2_with fail
              have hcur := st.q.vb
              refine hK.out _ _ hcur ?_
              clear hK K
              refine fld_takes [8, 9] _ 4 _ _ _ (by kernel_rfl) (fun _ d _ _ _ h => by cases d <;> exact h) (by rfl) (by kernel_rfl) (by assumption) ?_
              refine fld_taken (v := ?_) rfl (by rfl) (fun w' hw' => ?_) ?_
              rotate_left
              · have hc := Var.cell hw' 0 rfl
                go_simp <;> with_reducible rfl
              simp only [Act.put, List.getElem_toArray, List.getElem_cons_succ, List.getElem_cons_zero, List.setIfInBounds_toArray, List.set_cons_zero, List.set_cons_succ]
              refine fld_taken (v := ?_) rfl (by rfl) (fun w' hw' => ?_) ?_
              rotate_left
              · have hc := Var.cell hw' 0 rfl
                go_simp <;> with_reducible rfl
              simp only [Act.put, List.getElem_toArray, List.getElem_cons_succ, List.getElem_cons_zero, List.setIfInBounds_toArray, List.set_cons_zero, List.set_cons_succ]
              refine fld_taken_nil ?_
              refine fld_alone (i := 10) (by kernel_rfl) rfl (by rfl) (fun K hK => ?_)
              go_wp2_with fail
              obtain ⟨y, hyy⟩ : ∃ y, y = Wc.heap.size := ⟨_, rfl⟩
              have hsy := (show Seen (Wc.alloc (.cells #[.int .i64 sq, .int .i64 cnt, .int .i64 (o1 - 1)] 75)) (Wc.heap.size + 1) (some ⟨Wc.heap.size, 0, none⟩) (scell ⟨sq, cnt, o1 - 1⟩) from Seen.new Wc (scell ⟨sq, cnt, o1 - 1⟩) 75)
              obtain ⟨Wn, hWn⟩ : ∃ Wn, Wn = Wc.alloc (.cells #[.int .i64 sq, .int .i64 cnt, .int .i64 (o1 - 1)] 75) := ⟨_, rfl⟩
              have st := st.next (below_new (.cells #[.int .i64 sq, .int .i64 cnt, .int .i64 (o1 - 1)] 75))
              rw [← hWn] at st
              rw [← hWn, ← hyy] at hsy
              rw [← hWn, ← hyy]
              clear hWn hyy
              obtain ⟨Wc, hWc⟩ : ∃ Wc, Wc = Wn := ⟨_, rfl⟩
              subst hWc
              have hcur := st.q.vb
              refine hK.out _ _ hcur ?_
              clear hK K
              refine fld_alone (i := 11) (by kernel_rfl) rfl (by rfl) (fun K hK => ?_)
              refine wp_append_one (.tmp 17) (.tmp 26) rfl Tryz.underlying28 sn_info0 rfl (by omega) (by omega) (base := x + 1) (n := k) (c := 1) (B := y + 1) (v := .slice Ak k ck) (xs := scells done) (news := scell ⟨sq, cnt, o1 - 1⟩) (A := some ⟨y, 0, none⟩) rfl rfl st.own rfl (fun u hu => scells_one [_] u (by simpa [scells] using hu)) hsy st.v.lt (by omega) ?_
              intro A9 c9 W9 hown9 hb9
              have v9 := st.v.below hb9 (Nat.lt_succ_self x)
              have hcur : Var W9 w.heap.size 89 #[.pointer (some ⟨g, 0, none⟩)] := st.q.vb.below hb9 (by have := st.hx; omega)
              refine hK.out _ _ hcur ?_
              clear hK K
              refine fld_takes [12] _ 1 _ _ _ (by kernel_rfl) (fun _ d _ _ _ h => by cases d <;> exact h) (by rfl) (by kernel_rfl) (by assumption) ?_
              refine fld_taken (v := ?_) rfl (by rfl) (fun w' hw' => ?_) ?_
              rotate_left
              · have hc := Var.cell hw' 0 rfl
                go_simp <;> with_reducible rfl
              simp only [Act.put, List.getElem_toArray, List.getElem_cons_succ, List.getElem_cons_zero, List.setIfInBounds_toArray, List.set_cons_zero, List.set_cons_succ]
              refine fld_taken_nil ?_
              refine fld_alone (i := 13) (by kernel_rfl) rfl (by rfl) (fun K hK => ?_)
              have hc3 := v9.cell 3 rfl
              have hf3 := v9.free 3
              have hcl := v9.lt
              go_wp2_with fail
              have st := st.push hb9 hown9
              clear hc3 hf3 hcl v9 hb9 hown9 hsy
              have hcur := st.q.vb
              refine hK.out _ _ hcur ?_
              clear hK K
              refine wpAnyH_done (by kernel_rfl) ?_ _
              go_wp2
              go_roundw
              case rel => exact ⟨k + 1, pc, c9, bc, A9, done ++ [⟨sq, cnt, o1 - 1⟩], rest2, by omega, by go_num, hpc, st, HREST, HD2⟩
              case measure => simp [intOf]; omega

            · go_simp
              refine (rnumber_any g s pb bb o1 pc bc _ T3.out st.q.rd hx hpb).mono ?_
              rintro e Wc ⟨rfl, hr, hk⟩
              have st := st.read hr hk
              clear hr hk
              go_wp2_with fail
              have hcur := st.q.vb
              refine hK.out _ _ hcur ?_
              clear hK K
              refine fld_takes [8, 9] _ 5 _ _ _ (by kernel_rfl) (fun _ d _ _ _ h => by cases d <;> exact h) (by rfl) (by kernel_rfl) (by assumption) ?_
              refine fld_taken (v := ?_) rfl (by rfl) (fun w' hw' => ?_) ?_
              rotate_left
              · have hc := Var.cell hw' 0 rfl
                go_simp <;> with_reducible rfl
              simp only [Act.put, List.getElem_toArray, List.getElem_cons_succ, List.getElem_cons_zero, List.setIfInBounds_toArray, List.set_cons_zero, List.set_cons_succ]
              refine fld_taken (v := ?_) rfl (by rfl) (fun w' hw' => ?_) ?_
              rotate_left
              · have hc := Var.cell hw' 0 rfl
                go_simp <;> with_reducible rfl
              simp only [Act.put, List.getElem_toArray, List.getElem_cons_succ, List.getElem_cons_zero, List.setIfInBounds_toArray, List.set_cons_zero, List.set_cons_succ]
              refine fld_taken_nil ?_
              refine fld_two (i := 1) (j := 10) (by kernel_rfl) rfl rfl (by rfl) (by rfl) (fun K hK => ?_) (fun K hK => ?_)
              · have hc3 := st.v.cell 3 rfl
                have hcl := st.v.lt
                go_wp2_with fail
                clear hc3 hcl
                have hcur := st.q.vb
                refine hK.out _ _ hcur ?_
                clear hK K
                refine fld_alone (i := 10) (by kernel_rfl) rfl (by rfl) (fun K hK => ?_)
                go_wp2_with fail
                obtain ⟨y, hyy⟩ : ∃ y, y = Wc.heap.size := ⟨_, rfl⟩
                have hsy := (show Seen (Wc.alloc (.cells #[.int .i64 sq, .int .i64 cnt, .int .i64 (o1 - 1)] 75)) (Wc.heap.size + 1) (some ⟨Wc.heap.size, 0, none⟩) (scell ⟨sq, cnt, o1 - 1⟩) from Seen.new Wc (scell ⟨sq, cnt, o1 - 1⟩) 75)
                obtain ⟨Wn, hWn⟩ : ∃ Wn, Wn = Wc.alloc (.cells #[.int .i64 sq, .int .i64 cnt, .int .i64 (o1 - 1)] 75) := ⟨_, rfl⟩
                have st := st.next (below_new (.cells #[.int .i64 sq, .int .i64 cnt, .int .i64 (o1 - 1)] 75))
                rw [← hWn] at st
                rw [← hWn, ← hyy] at hsy
                rw [← hWn, ← hyy]
                clear hWn hyy
                obtain ⟨Wc, hWc⟩ : ∃ Wc, Wc = Wn := ⟨_, rfl⟩
                subst hWc
                have hcur := st.q.vb
                refine hK.out _ _ hcur ?_
                clear hK K
                refine fld_alone (i := 11) (by kernel_rfl) rfl (by rfl) (fun K hK => ?_)
                refine wp_append_one (.tmp 17) (.tmp 26) rfl Tryz.underlying28 sn_info0 rfl (by omega) (by omega) (base := x + 1) (n := k) (c := 1) (B := y + 1) (v := .slice Ak k ck) (xs := scells done) (news := scell ⟨sq, cnt, o1 - 1⟩) (A := some ⟨y, 0, none⟩) rfl rfl st.own rfl (fun u hu => scells_one [_] u (by simpa [scells] using hu)) hsy st.v.lt (by omega) ?_
                intro A9 c9 W9 hown9 hb9
                have v9 := st.v.below hb9 (Nat.lt_succ_self x)
                have hcur : Var W9 w.heap.size 89 #[.pointer (some ⟨g, 0, none⟩)] := st.q.vb.below hb9 (by have := st.hx; omega)
                refine hK.out _ _ hcur ?_
                clear hK K
                refine fld_takes [12] _ 1 _ _ _ (by kernel_rfl) (fun _ d _ _ _ h => by cases d <;> exact h) (by rfl) (by kernel_rfl) (by assumption) ?_
                refine fld_taken (v := ?_) rfl (by rfl) (fun w' hw' => ?_) ?_
                rotate_left
                · have hc := Var.cell hw' 0 rfl
                  go_simp <;> with_reducible rfl
                simp only [Act.put, List.getElem_toArray, List.getElem_cons_succ, List.getElem_cons_zero, List.setIfInBounds_toArray, List.set_cons_zero, List.set_cons_succ]
                refine fld_taken_nil ?_
                refine fld_alone (i := 13) (by kernel_rfl) rfl (by rfl) (fun K hK => ?_)
                have hc3 := v9.cell 3 rfl
                have hf3 := v9.free 3
                have hcl := v9.lt
                go_wp2_with fail
                have st := st.push hb9 hown9
                clear hc3 hf3 hcl v9 hb9 hown9 hsy
                have hcur := st.q.vb
                refine hK.out _ _ hcur ?_
                clear hK K
                refine wpAnyH_done (by kernel_rfl) ?_ _
                go_wp2
                go_roundw
                case rel => exact ⟨k + 1, pc, c9, bc, A9, done ++ [⟨sq, cnt, o1 - 1⟩], rest2, by omega, by go_num, hpc, st, HREST, HD2⟩
                case measure => simp [intOf]; omega

              · go_wp2_with fail
                obtain ⟨y, hyy⟩ : ∃ y, y = Wc.heap.size := ⟨_, rfl⟩
                have hsy := (show Seen (Wc.alloc (.cells #[.int .i64 sq, .int .i64 cnt, .int .i64 (o1 - 1)] 75)) (Wc.heap.size + 1) (some ⟨Wc.heap.size, 0, none⟩) (scell ⟨sq, cnt, o1 - 1⟩) from Seen.new Wc (scell ⟨sq, cnt, o1 - 1⟩) 75)
                obtain ⟨Wn, hWn⟩ : ∃ Wn, Wn = Wc.alloc (.cells #[.int .i64 sq, .int .i64 cnt, .int .i64 (o1 - 1)] 75) := ⟨_, rfl⟩
                have st := st.next (below_new (.cells #[.int .i64 sq, .int .i64 cnt, .int .i64 (o1 - 1)] 75))
                rw [← hWn] at st
                rw [← hWn, ← hyy] at hsy
                rw [← hWn, ← hyy]
                clear hWn hyy
                obtain ⟨Wc, hWc⟩ : ∃ Wc, Wc = Wn := ⟨_, rfl⟩
                subst hWc
                have hcur := st.q.vb
                refine hK.out _ _ hcur ?_
                clear hK K
                refine fld_alone (i := 1) (by kernel_rfl) rfl (by rfl) (fun K hK => ?_)
                have hc3 := st.v.cell 3 rfl
                have hcl := st.v.lt
                go_wp2_with fail
                clear hc3 hcl
                have hcur := st.q.vb
                refine hK.out _ _ hcur ?_
                clear hK K
                refine fld_alone (i := 11) (by kernel_rfl) rfl (by rfl) (fun K hK => ?_)
                refine wp_append_one (.tmp 17) (.tmp 26) rfl Tryz.underlying28 sn_info0 rfl (by omega) (by omega) (base := x + 1) (n := k) (c := 1) (B := y + 1) (v := .slice Ak k ck) (xs := scells done) (news := scell ⟨sq, cnt, o1 - 1⟩) (A := some ⟨y, 0, none⟩) rfl rfl st.own rfl (fun u hu => scells_one [_] u (by simpa [scells] using hu)) hsy st.v.lt (by omega) ?_
                intro A9 c9 W9 hown9 hb9
                have v9 := st.v.below hb9 (Nat.lt_succ_self x)
                have hcur : Var W9 w.heap.size 89 #[.pointer (some ⟨g, 0, none⟩)] := st.q.vb.below hb9 (by have := st.hx; omega)
                refine hK.out _ _ hcur ?_
                clear hK K
                refine fld_takes [12] _ 1 _ _ _ (by kernel_rfl) (fun _ d _ _ _ h => by cases d <;> exact h) (by rfl) (by kernel_rfl) (by assumption) ?_
                refine fld_taken (v := ?_) rfl (by rfl) (fun w' hw' => ?_) ?_
                rotate_left
                · have hc := Var.cell hw' 0 rfl
                  go_simp <;> with_reducible rfl
                simp only [Act.put, List.getElem_toArray, List.getElem_cons_succ, List.getElem_cons_zero, List.setIfInBounds_toArray, List.set_cons_zero, List.set_cons_succ]
                refine fld_taken_nil ?_
                refine fld_alone (i := 13) (by kernel_rfl) rfl (by rfl) (fun K hK => ?_)
                have hc3 := v9.cell 3 rfl
                have hf3 := v9.free 3
                have hcl := v9.lt
                go_wp2_with fail
                have st := st.push hb9 hown9
                clear hc3 hf3 hcl v9 hb9 hown9 hsy
                have hcur := st.q.vb
                refine hK.out _ _ hcur ?_
                clear hK K
                refine wpAnyH_done (by kernel_rfl) ?_ _
                go_wp2
                go_roundw
                case rel => exact ⟨k + 1, pc, c9, bc, A9, done ++ [⟨sq, cnt, o1 - 1⟩], rest2, by omega, by go_num, hpc, st, HREST, HD2⟩
                case measure => simp [intOf]; omega
      · have hkm : k = m := by omega
        subst hkm
        have hrec := HR.out
        rw [Nat.sub_self] at hrec
        obtain ⟨rfl, rfl, rfl⟩ := hrec
        have HD3 : Hid (l = done) := by show _ = _; rw [HD.out]; simp
        clear HR HD
        go_wp2_with (first | refine wpList_load_var rfl _ rfl Tryz.underlying30 rfl rfl st.v (by kernel_rfl) ?_ | (refine wpList_store_var rfl _ _ rfl rfl rfl st.q.vr rfl (by kernel_rfl) (by simp [Value.oneCell']) ?_; intro W9 v9 o9))
        have hgw := st.q.hg
        have hxw := st.hx
        have hr9 : Rd 105 W9 g s p' bad' := o9.var st.q.rd (by omega)
        have k9 := Only.kept st.q.kept o9 (.inr (Nat.le_succ _))
        have ho9 := own_down (own_type st.own st.q.vr (by decide) o9) (base' := w.heap.size) (by omega)
        refine bodyPost_ret (results_var rfl rfl v9 Tryz.underlying32 rfl (by kernel_rfl)) rfl ?_
        refine ⟨none, 0, 0, Ak, k, ck, rfl, ⟨World.ownsRow_nil _ _ _ _, by rw [HD3.out]; exact ho9, rfl, HL.out, by omega, by simp [stateE, noBt], ⟨by simp [stateE, noRw, ByteArray.size], by simp [stateE, noRw, ByteArray.size]⟩⟩, hr9, k9⟩
end Go.Proofs.YtchpemgamgcbkaaGreat
