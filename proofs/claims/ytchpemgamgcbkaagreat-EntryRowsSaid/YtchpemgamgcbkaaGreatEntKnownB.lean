/-
  Contract of entry's Known: what it returns and what it does to memory. Conditions: those that each theorem names.
-/
import Derived.Test.YtchpemgamgcbkaaGreatEntKnown
namespace Go.Proofs.YtchpemgamgcbkaaGreat
open Go.RowKit Go.Shelf
attribute [local go_sem] Oper.semAt_some

/-- Of the blocks below base all but those of S are as they were. -/
structure Stays (base : Nat) (S : List Nat) (a b : World) : Prop where
  os : b.os = a.os
  tape : b.tape = a.tape
  output : b.output = a.output
  size : a.heap.size ≤ b.heap.size
  block : ∀ k, k < base → k ∉ S → b.heap[k]? = a.heap[k]?
section
variable {base n₀ : Nat} {S : List Nat} {a b c : World}
theorem Stays.refl (base : Nat) (S : List Nat) (a : World) : Stays base S a a := ⟨rfl, rfl, rfl, Nat.le_refl _, fun _ _ _ => rfl⟩
theorem Stays.trans (h : Stays base S a b) (k : Stays base S b c) : Stays base S a c :=
  ⟨k.os.trans h.os, k.tape.trans h.tape, k.output.trans h.output, Nat.le_trans h.size k.size, fun i hi hs => (k.block i hi hs).trans (h.block i hi hs)⟩
theorem Stays.of_below (h : Below base a b) : Stays base S a b := ⟨h.os, h.tape, h.output, h.size, fun i hi _ => h.block i hi⟩
theorem Stays.setCell (h : Stays base S a b) {p : Addr} (hp : p.block ∈ S) (u : Value) : Stays base S a (b.setCell p u) :=
  h.trans ⟨rfl, rfl, rfl, by simp [World.setCell], fun k _ hk => Below.heap_setCell _ _ _ _ (fun e => hk (by rw [e]; exact hp))⟩
theorem Stays.grown (h : Stays base S a b) {row : Option Nat} (hb : base ≤ a.heap.size) (hg : b.grownBy c row) (hr : ∀ r, row = some r → base ≤ r) : Stays base S a c :=
  h.trans ⟨hg.os, hg.tape, hg.output, hg.size, fun k hk _ => hg.block k (by have := h.size; omega) (fun e => by have := hr k e.symm; omega)⟩
theorem Stays.below (h : Stays base S a b) (hn : n₀ ≤ base) (hs : ∀ x ∈ S, n₀ ≤ x) : Below n₀ a b :=
  ⟨h.os, h.tape, h.output, h.size, fun k hk => h.block k (by omega) (fun hm => by have := hs k hm; omega)⟩
theorem Stays.boxed (h : Stays base S a b) {B : Nat} {t : TypeId} {v : Value} (hB : Boxed a B t v) (hl : B < base) (hn : B ∉ S) : Boxed b B t v := (h.block B hl hn).trans hB
theorem staysK_t (h : Stays base S a b) (k : Stays base S b c) : Stays base S a c := h.trans k
theorem staysK_b {w : World} (hb : base ≤ w.heap.size) (W : World) (l : Nat) (o o' : Obj) (hl : w.heap.size ≤ l) (h : W.heap[l]? = some o) (_ : o.isCells = false) (_ : o.isWalk = false) : Stays base S W (W.putObj l o') :=
  (Stays.refl base S W).grown (by have := (Array.getElem?_eq_some_iff.1 h).1; omega) (grownBy_putObj' W l o') (fun r e => by cases e; omega)
end
theorem Var.row {X Y : World} {g T : Nat} {cs : Array Value} {row : Option Nat} (h : Var X g T cs) (hg : X.grownBy Y row) (hr : ∀ r, row = some r → ∃ o : Obj, X.heap[r]? = some o ∧ o.isCells = false) : Var Y g T cs :=
  (hg.block g h.lt (fun e => by obtain ⟨o, ho, hc⟩ := hr g e.symm; rw [show X.heap[g]? = _ from h] at ho; cases ho; cases hc)).trans h

theorem snOk_snoc (nx : Int) (pre : List Bk) (x : Bk) : SnOk nx (ofBk (pre ++ [x])).reverse ↔ (x.2.Ok ∧ 0 ≤ x.2.sq ∧ x.2.sq + x.2.cnt ≤ behind nx (ofBk pre).reverse ∧ SnOk nx (ofBk pre).reverse) := by
  rw [ofBk_snoc, List.reverse_append]
  exact Iff.rfl
theorem behind_snoc (nx : Int) (pre : List Bk) (x : Bk) : behind nx (ofBk (pre ++ [x])).reverse = x.2.sq := by
  rw [ofBk_snoc, List.reverse_append]
  rfl

set_option maxRecDepth 100000 in
set_option maxHeartbeats 2000000 in
theorem known_in (p : Pd) (A : Option Addr) (N c B : Nat) (m : Bool) (w : World) (hp : PIn w B p A N c) (hB : B ≤ w.heap.size) (hm : m = true ↔ p.Good) :
    CallsIn Fence.wide 7 Tryz.prog 14 #[.agg (pvals p A N c)] w fun e W' => e = .returned (.bool m) ∧ Below w.heap.size w W' := by
  obtain ⟨pid, ep, nx, sns⟩ := p
  have no : ¬ Pd.Good ⟨pid, ep, nx, sns⟩ → m = false := fun h => by
    rw [← Bool.not_eq_true]
    exact fun h' => h (hm.1 h')
  have NO := Lib.hid no
  have HM := Lib.hid hm
  obtain ⟨hlen, hseen, hcap, hmax⟩ := hp
  simp only at hlen hseen
  have HL := Lib.hid hlen
  clear hm hlen no
  simp only [pvals]
  refine callsIn_of_wp_marks Tryz.func14 rfl trivial ?_ rfl
  simp only [Tryz.ntmps14, List.size_toArray, List.length_cons, List.length_nil, Nat.reduceAdd, Nat.reduceSub, Array.replicate_succ, Array.replicate_zero, List.push_toArray, List.append_toArray, List.nil_append, List.cons_append]
  gi_wp2_with fail
  obtain ⟨W0, hW0⟩ : ∃ W0, W0 = (w.alloc (.cells #[.int .i64 pid, .int .i64 ep, .int .i64 nx, .slice A N c] 30)).alloc (.cells #[.bool false] 4) := ⟨_, rfl⟩
  have v0 : Var W0 w.heap.size 30 #[.int .i64 pid, .int .i64 ep, .int .i64 nx, .slice A N c] := by rw [hW0]; exact (Var.new _ _ _).alloc _
  have r0 : Var W0 (w.heap.size + 1) 4 #[.bool false] := by rw [hW0]; have h := Var.new (w.alloc (.cells #[.int .i64 pid, .int .i64 ep, .int .i64 nx, .slice A N c] 30)) #[.bool false] 4; rw [World.size_alloc] at h; exact h
  have b0 : Below w.heap.size w W0 := by rw [hW0]; exact ((Below.refl _ w).alloc (Nat.le_refl _) _).alloc (by simp) _
  have z0 : W0.heap.size = w.heap.size + 2 := by rw [hW0]; simp
  rw [← hW0]
  clear hW0
  have HZ := Lib.hid z0
  clear z0
  obtain ⟨d0, d1, d2, d3, f1⟩ := v0.cells4
  have l0 := v0.lt
  have l1 := r0.lt
  have fr := r0.free 0
  have hr0 := r0.cell 0 rfl
  refine ⟨trivial, ?_⟩
  obtain ⟨q1, hq1⟩ := iff_of (Named pid ep)
  refine (callsIn_wide.2 (named_any pid ep q1 _ hq1)).mono ?_
  rintro e w1 ⟨rfl, rfl⟩
  have HQ1 := Lib.hid hq1
  clear hq1
  cases q1 with
  | false =>
    obtain rfl : m = false := NO.out fun h => by have := HQ1.out.2 h.1; cases this
    clear HQ1 HL HM NO hseen
    gi_wp2_with (refine ⟨trivial, ?_⟩)
    have hc5 := (r0.set 0 (.bool false)).cell 0 rfl
    exact ⟨.bool false, by simp [results, Tryz.f14, go_sem, hc5], rfl, b0.setCell (by simp) _⟩
  | true =>
    gi_wp2_with fail
    refine ⟨trivial, ?_⟩
    obtain ⟨q2, hq2⟩ := iff_of (0 ≤ nx ∧ nx ≤ 1048576)
    refine (callsIn_wide.2 (within_any nx 0 1048576 q2 _ hq2)).mono ?_
    rintro e w1 ⟨rfl, rfl⟩
    have HQ2 := Lib.hid hq2
    clear hq2
    cases q2 with
    | false =>
      obtain rfl : m = false := NO.out fun h => by have := HQ2.out.2 h.2.1; cases this
      clear HQ1 HQ2 HL HM NO hseen
      gi_wp2_with (refine ⟨trivial, ?_⟩)
      have hc5 := (r0.set 0 (.bool false)).cell 0 rfl
      exact ⟨.bool false, by simp [results, Tryz.f14, go_sem, hc5], rfl, b0.setCell (by simp) _⟩
    | true =>
      by_cases h3 : N ≤ 3
      · have t3 : decide ((3 : Int) < (N : Int)) = false := bool_dec _ (by omega)
        gi_wp2_with fail
        refine ⟨trivial, ?_⟩
        refine (back_in 6 A N c _).mono ?_
        rintro e w' ⟨rfl, rfl⟩
        gi_wp2_with fail
        obtain ⟨g, hg⟩ : ∃ g, g = w.heap.size := ⟨_, rfl⟩
        obtain ⟨x, hx⟩ : ∃ x, x = w1.heap.size := ⟨_, rfl⟩
        have hgx2 : x = g + 2 := by rw [hx, hg]; exact HZ.out
        have hgx : g + 1 < x := by omega
        obtain ⟨W1, hW1⟩ : ∃ W1, W1 = (w1.alloc (.cells #[.int .i64 nx] 3)).alloc (.cells #[.slice A N c] 28) := ⟨_, rfl⟩
        have z1 : W1.heap.size = x + 2 := by rw [hW1, hx]; simp
        have bB : Below w1.heap.size w1 W1 := by rw [hW1]; exact ((Below.refl _ w1).alloc (Nat.le_refl _) _).alloc (by simp) _
        have vN : Boxed W1 x 3 (.int .i64 nx) := by rw [hW1, hx]; exact (Boxed.new _ _ _).alloc _
        have vS : Boxed W1 (x + 1) 28 (.slice A N c) := by rw [hW1, hx]; have h := Boxed.new (w1.alloc (.cells #[.int .i64 nx] 3)) 28 (.slice A N c); rw [World.size_alloc] at h; exact h
        have vR : Var W1 (g + 1) 4 #[.bool false] := by rw [hg]; exact r0.below bB (by rw [← hx]; omega)
        have hs1 : Seen W1 B A (scells sns) := (hseen.below (b0.mono hB)).below (bB.mono (Nat.le_trans hB b0.size))
        have bW : Below w.heap.size w W1 := b0.trans (bB.mono b0.size)
        rw [← hW1, ← hx, ← hg]
        rw [← hg] at bW
        have hBg : B ≤ g := by rw [hg]; exact hB
        have hz1 : x + 2 ≤ W1.heap.size := by omega
        have HG := Lib.hid hg
        clear hW1 hg hx hgx2 z1 bB hseen r0 v0 d0 d1 d2 d3 f1 l0 l1 fr hr0 b0
        refine wpIn_rangeFunc_ownH rfl (by omega) (gf := 77) (lb := #[.pointer (some ⟨x + 1, 0, none⟩)]) rfl trivial (enters_of Tryz.func77 (by kernel_rfl) rfl)
          (back_stops 6 (by omega) (x + 1) B A N c sns HL.out hmax (Stays (x + 2) [g + 1, x]) (fun X Y h hb => ⟨h.boxed hb.1 (by omega) (by simp; omega), hb.2.below (h.below (by omega) (by simp; omega))⟩) W1 ⟨vS, hs1⟩ (by omega)) staysK_t (staysK_b (by omega)) (Below.refl _ _) (fun _ => rfl)
          (fun pre W => Boxed W x 3 (.int .i64 (behind nx (ofBk pre).reverse)) ∧ Hid (SnOk nx (ofBk pre).reverse) ∧ Var W (g + 1) 4 #[.bool false] ∧ Stays (x + 2) [g + 1, x] W1 W)
          (fun c pre W => c = .ret ∧ Hid (¬ SnOk nx (ofBk pre).reverse) ∧ Var W (g + 1) 4 #[.bool false] ∧ Stays (x + 2) [g + 1, x] W1 W)
          (fun pre X Y row hs hgr hr => ⟨hs.1.kept hgr (fun e => by have := (hr _ e.symm).1; omega), hs.2.1, hs.2.2.1.row hgr (fun r e => (hr r e).2), hs.2.2.2.grown (by omega) hgr (fun r e => by have := (hr r e).1; omega)⟩)
          (fun _ pre X Y row hs hgr hr => ⟨hs.1, hs.2.1, hs.2.2.1.row hgr (fun r e => (hr r e).2), hs.2.2.2.grown (by omega) hgr (fun r e => by have := (hr r e).1; omega)⟩)
          ⟨vN, trivial, vR, Stays.refl _ _ _⟩
          (fun y a' W => ∃ q, x + 2 ≤ q ∧ a' = { tmps := #[.agg #[.int .i64 pid, .int .i64 ep, .int .i64 nx, .slice A N c], .pointer (some ⟨g, 0, none⟩), .pointer (some ⟨g + 1, 0, none⟩), .pointer (some ⟨x, 0, none⟩), undef, .pointer (some ⟨q, 0, none⟩), .pointer (some ⟨g, 0, none⟩), .int .i64 pid, .pointer (some ⟨g, 1, none⟩), .int .i64 ep, .bool true, .bool false, .bool false, .pointer (some ⟨g, 2, none⟩), .int .i64 nx, .bool true, .bool false, .bool false, .bool false, .pointer (some ⟨g, 3, none⟩), .slice A N c, .int .i64 (N : Int), .bool false, .bool false, .pointer (some ⟨g, 2, none⟩), .int .i64 nx, .pointer (some ⟨g, 3, none⟩), .slice A N c, .func (.func 77) #[] #[.pointer (some ⟨x + 1, 0, none⟩)], .int .i64 (y.1 : Int), .agg #[.int .i64 y.2.sq, .int .i64 y.2.cnt, .int .i64 y.2.bs], undef, undef, undef, undef, undef, undef, undef, undef, undef, undef, undef, undef, undef, undef, undef, undef, undef, undef, undef, undef, undef, undef], defers := [] } ∧ Var W q 75 #[.int .i64 y.2.sq, .int .i64 y.2.cnt, .int .i64 y.2.bs])
          (fun y a' _ X Y row hs hgr hr => by obtain ⟨q, hq, ha, hv⟩ := hs; exact ⟨q, hq, ha, hv.row hgr (fun r e => (hr r e).2)⟩) ?assign ?body ?done ?stop
        case assign =>
          rintro l pre ⟨k, ⟨sq, cnt, bs⟩⟩ W K ⟨i1, i2, i3, i4⟩ hK
          simp only [snV]
          gi_wp2
          have hz := i4.size
          have hb9 := (Stays.of_below ((Below.refl (x + 2) W).alloc (by omega) (.cells #[.int .i64 sq, .int .i64 cnt, .int .i64 bs] 75)) : Stays (x + 2) [g + 1, x] W _)
          exact hK _ _ ((KeepsOthers.alloc _ _).from _) hb9 ⟨i1.alloc _, i2, i3.alloc _, i4.trans hb9⟩ ⟨W.heap.size, by omega, rfl, Var.new _ _ _⟩
        case body =>
          rintro l pre ⟨k, ⟨sq, cnt, bs⟩⟩ a' W hl ⟨r, hr⟩ ⟨i1, i2, i3, i4⟩ ⟨q, hq, rfl, hv⟩ hlen
          clear hl hr hlen vN vS vR hs1 bW
          obtain ⟨hb, hhb⟩ : ∃ hb, hb = behind nx (ofBk pre).reverse := ⟨_, rfl⟩
          have hnx := HQ2.out.1 (by first | rfl | trivial)
          have hb1 : 0 ≤ hb := by rw [hhb]; exact SnOk.behind_pos hnx.1 i2.out
          have hb2 : hb ≤ 1048576 := by rw [hhb]; exact Int.le_trans (SnOk.behind_le i2.out) hnx.2
          rw [← hhb] at i1
          have HS := Lib.hid (snOk_snoc nx pre (k, ⟨sq, cnt, bs⟩))
          have HBH := Lib.hid (behind_snoc nx pre (k, ⟨sq, cnt, bs⟩))
          have HHB := Lib.hid hhb
          clear hhb hnx
          have hc3 := i1.cell
          have hfz := i1.frozen
          obtain ⟨e0, e1, e2, f5⟩ := hv.cells3
          have lq := hv.lt
          have hr3 := i3.cell 0 rfl
          have hrf := i3.free 0
          have lr := i3.lt
          have lx := i1.lt
          obtain ⟨m1, hm1⟩ := iff_of (1 ≤ cnt ∧ cnt ≤ 4)
          have HM1 := Lib.hid hm1
          clear hm1
          gi_wp2_with fail
          refine ⟨trivial, ?_⟩
          refine ((callsIn_wide.2 (within_any cnt 1 4 m1 _ HM1.out)).inRound l).mono ?_
          rintro e w3 ⟨rfl, rfl⟩
          cases m1 with
          | false =>
            gi_wp2_with (refine ⟨trivial, ?_⟩)
            refine ⟨(KeepsOthers.setCell _ _ _).from _, rfl, ?_, i3.set 0 _, i4.setCell (by simp) _⟩
            show ¬ _
            rw [HS.out]
            exact fun h => by have := HM1.out.2 h.1.1; cases this
          | true =>
            have hcc := HM1.out.1 (by first | rfl | trivial)
            clear HM1
            obtain ⟨m2, hm2⟩ := iff_of (-1 ≤ bs ∧ bs ≤ 1048576)
            have HM2 := Lib.hid hm2
            clear hm2
            gi_wp2_with fail
            refine ⟨trivial, ?_⟩
            refine ((callsIn_wide.2 (within_any bs (-1) 1048576 m2 _ HM2.out)).inRound l).mono ?_
            rintro e w3 ⟨rfl, rfl⟩
            cases m2 with
            | false =>
              gi_wp2_with (refine ⟨trivial, ?_⟩)
              refine ⟨(KeepsOthers.setCell _ _ _).from _, rfl, ?_, i3.set 0 _, i4.setCell (by simp) _⟩
              show ¬ _
              rw [HS.out]
              exact fun h => by have := HM2.out.2 h.1.2; cases this
            | true =>
              obtain ⟨m3, hm3⟩ := iff_of (0 ≤ sq ∧ sq ≤ hb - cnt)
              have HM3 := Lib.hid hm3
              clear hm3
              gi_wp2_with fail
              refine ⟨trivial, ?_⟩
              refine ((callsIn_wide.2 (within_any sq 0 (hb - cnt) m3 _ HM3.out)).inRound l).mono ?_
              rintro e w3 ⟨rfl, rfl⟩
              cases m3 with
              | false =>
                gi_wp2
                refine ⟨(KeepsOthers.setCell _ _ _).from _, rfl, ?_, i3.set 0 _, i4.setCell (by simp) _⟩
                show ¬ _
                rw [HS.out, ← HHB.out]
                exact fun h => by have := HM3.out.2 ⟨h.2.1, by have h9 : sq + cnt ≤ hb := h.2.2.1; omega⟩; cases this
              | true =>
                gi_wp2
                have h3' := HM3.out.1 (by first | rfl | trivial)
                have h2' := HM2.out.1 (by first | rfl | trivial)
                refine ⟨(KeepsOthers.setCell _ _ _).from _, (Stays.refl _ _ _).setCell (by simp) _, ?_, ?_, i3.other _ _ (by omega), i4.setCell (by simp) _⟩
                · rw [HBH.out]
                  exact i1.set _
                · show SnOk _ _
                  rw [HS.out, ← HHB.out]
                  exact ⟨⟨hcc, h2'⟩, h3'.1, show sq + cnt ≤ hb by omega, i2.out⟩
        case done =>
          rintro D ys W hD hys ⟨i1, i2, i3, i4⟩ hK
          have hgd := i2.out
          rw [hys, List.reverse_reverse] at hgd
          obtain rfl : m = true := HM.out.2 ⟨HQ1.out.1 (by first | rfl | trivial), HQ2.out.1 (by first | rfl | trivial), by have := HL.out; simp only; omega, hgd⟩
          clear hgd hys
          have hr3 := i3.cell 0 rfl
          have hrf := i3.free 0
          have lr := i3.lt
          have HG0 := HG
          clear hs1 i1
          gi_wp2
          have hK' := (KeepsOthers.setCell W ⟨g + 1, 0, none⟩ (.bool true)).same D _ hK rfl
          refine ⟨by simp, .inl ⟨_, _, rfl, run_takeDeferred hK', ?_⟩⟩
          have hc5 := ((i3.set 0 (.bool true)).row (grownBy_putObj' _ D (.deferred none)) (fun r e => by cases e; exact ⟨_, hK', rfl⟩)).cell 0 rfl
          refine ⟨.bool true, by simp [results, Tryz.f14, go_sem, hc5], rfl, ?_⟩
          rw [← HG.out]
          exact ((bW.trans (i4.below (by omega) (by simp; omega))).setCell (by simp) _).trans (belowK_b (w := W1) (by omega) _ D _ _ hD hK' rfl rfl)
        case stop =>
          rintro D c pre W hD hpre ⟨rfl, i2, i3, i4⟩ hK
          obtain rfl : m = false := NO.out fun h => i2.out (by
            rw [hpre, List.reverse_take, List.reverse_reverse, List.length_reverse]
            exact (h.2.2.2).drop _)
          gi_wp2
          refine ⟨by simp, .inl ⟨_, _, rfl, run_takeDeferred hK, ?_⟩⟩
          have hc5 := (i3.row (grownBy_putObj' _ D (.deferred none)) (fun r e => by cases e; exact ⟨_, hK, rfl⟩)).cell 0 rfl
          refine ⟨.bool false, by simp [results, Tryz.f14, go_sem, hc5], rfl, ?_⟩
          rw [← HG.out]
          exact (bW.trans (i4.below (by omega) (by simp; omega))).trans (belowK_b (w := W1) (by omega) _ D _ _ hD hK rfl rfl)
      · have t3 : decide ((3 : Int) < (N : Int)) = true := by simp; omega
        obtain rfl : m = false := NO.out fun h => h3 (by have h1 := h.2.2.1; have h2 := HL.out; simp only at h1; omega)
        clear HQ1 HQ2 HL HM NO hseen
        gi_wp2_with (refine ⟨trivial, ?_⟩)
        have hc5 := (r0.set 0 (.bool false)).cell 0 rfl
        exact ⟨.bool false, by simp [results, Tryz.f14, go_sem, hc5], rfl, b0.setCell (by simp) _⟩
theorem known_any (p : Pd) (A : Option Addr) (N c B : Nat) (m : Bool) (w : World) (hp : PIn w B p A N c) (hB : B ≤ w.heap.size) (hm : m = true ↔ p.Good) :
    Calls Tryz.prog 14 #[.agg (pvals p A N c)] w fun e W' => e = .returned (.bool m) ∧ Below w.heap.size w W' := callsIn_wide.1 (known_in p A N c B m w hp hB hm)
end Go.Proofs.YtchpemgamgcbkaaGreat
