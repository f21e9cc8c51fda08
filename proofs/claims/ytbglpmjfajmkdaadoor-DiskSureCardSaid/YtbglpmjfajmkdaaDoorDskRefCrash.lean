/-
  The contract of the reference's Crash: what it returns and what it does to memory. Conditions: those that each theorem names.
-/
import Derived.Test.YtbglpmjfajmkdaaDoorDskRefMay
import Derived.Test.YtbglpmjfajmkdaaDoorDskRefWith
import Derived.Test.YtbglpmjfajmkdaaDoorDskCrash
namespace Go.Proofs.YtbglpmjfajmkdaaDoor
open Go.RowKit DP

/-- What Crash has on its way. -/
structure CrSt (B : Nat) (A K : Option Addr) (fs : List Fl) (keep : List Int) (n c : Nat) (cap left : Int) (down : Bool) (g6 : Nat) (R : List Fl) (A1 : Option Addr) (m c1 : Nat) (w W : World) : Prop where
  d : Var W w.heap.size 24 #[.slice A n c, .int .i64 cap, .int .i64 left, .bool down]
  r : Var W (w.heap.size + 1) 24 #[.slice none 0 0, .int .i64 0, .int .i64 0, .bool false]
  o : Var W g6 24 #[.slice A1 m c1, .int .i64 cap, .int .i64 (-1), .bool false]
  own : W.ownsRow (g6 + 1) 41 3 (.slice A1 m c1) m (fcells R)
  s : Seen W B A (fcells fs)
  ks : Seen W B K (keep.map (Value.int .i64))
  b : Below w.heap.size w W
section
variable {B : Nat} {A K : Option Addr} {fs : List Fl} {keep : List Int} {n c : Nat} {cap left : Int} {down : Bool} {g6 : Nat} {R R' : List Fl} {A1 A2 : Option Addr} {m c1 m' c2 : Nat} {w W W' : World}
theorem CrSt.next (h : CrSt B A K fs keep n c cap left down g6 R A1 m c1 w W) (hB : B ≤ w.heap.size) (k : Below W.heap.size W W') : CrSt B A K fs keep n c cap left down g6 R A1 m c1 w W' :=
  ⟨h.d.below k h.d.lt, h.r.below k h.r.lt, h.o.below k h.o.lt, own_below h.own k, h.s.below (k.mono (Nat.le_trans hB h.b.size)), h.ks.below (k.mono (Nat.le_trans hB h.b.size)), h.b.trans (k.mono h.b.size)⟩
theorem CrSt.app (h : CrSt B A K fs keep n c cap left down g6 R A1 m c1 w W) (hB : B ≤ w.heap.size) (hg : w.heap.size + 2 ≤ g6) {ob : Obj} (hown : W'.ownsRow (g6 + 1) 41 3 (.slice A2 m' c2) m' (fcells R')) (hb : Below (g6 + 1) (W.alloc ob) W') :
    CrSt B A K fs keep n c cap left down g6 R' A2 m' c2 w (W'.setCell ⟨g6, 0, none⟩ (.slice A2 m' c2)) :=
  have h1 := h.next hB ((Below.refl _ W).alloc (Nat.le_refl _) ob)
  have o' := h1.o.below hb (by omega)
  ⟨(h1.d.below hb (by omega)).other 0 _ (by omega), (h1.r.below hb (by omega)).other 0 _ (by omega), by simpa using o'.set 0 (.slice A2 m' c2), own_set hown (by show g6 < g6 + 1; omega) _,
    (h1.s.below (hb.mono (by omega))).set (by show B ≤ g6; omega) _, (h1.ks.below (hb.mono (by omega))).set (by show B ≤ g6; omega) _, (h1.b.trans (hb.mono (by omega))).setCell (by show w.heap.size ≤ g6; omega) _⟩
end
theorem lefts_next {fs : List Fl} {keep : List Int} {k : Nat} {f : Fl} (hf : fs[k]? = some f) : ((lefts fs keep).take (k + 1)).filter (fun f => !bare f) = ((lefts fs keep).take k).filter (fun f => !bare f) ++ (if bare (left f keep[k]?) then [] else [left f keep[k]?]) := by
  have hl := lefts_at fs keep k
  rw [hf, Option.map_some] at hl
  obtain ⟨hk2, he⟩ := List.getElem?_eq_some_iff.1 hl
  rw [List.take_succ_eq_append_getElem hk2, List.filter_append, he]
  congr 1
  cases hb : bare (left f keep[k]?) <;> simp [hb]

set_option maxRecDepth 100000 in
set_option maxHeartbeats 1000000 in
theorem ref_crash_bad (A K : Option Addr) (n c B kn kc : Nat) (fs : List Fl) (cap left : Int) (down : Bool) (w : World) (hn : fs.length = n) (hs : Seen w B A (fcells fs)) (hB : B ≤ w.heap.size) (hsm : Small fs) (hc : check ⟨fs, cap, left, down⟩ = false) :
    Calls Tryd.prog 18 #[.agg #[.slice A n c, .int .i64 cap, .int .i64 left, .bool down], .slice K kn kc] w (DiskRes [] 0 0 false 2 w) := by
  have HN := Lib.hid hn
  have HC : Hid (code (check ⟨fs, cap, left, down⟩) = 2) := by show _ = _; rw [hc]; rfl
  clear hn hc
  go_enter Tryd.func18, Tryd.ntmps18
  go_wp2_with fail
  have hvs := new2 w #[.slice A n c, .int .i64 cap, .int .i64 left, .bool down] #[.slice none 0 0, .int .i64 0, .int .i64 0, .bool false] 24 24
  have hbs := bel2 w #[.slice A n c, .int .i64 cap, .int .i64 left, .bool down] #[.slice none 0 0, .int .i64 0, .int .i64 0, .bool false] 24 24
  refine (ref_check_any A n c B fs cap left down 2 _ HN.out HC.out (hs.below (hbs.mono hB)) (by simp; omega) hsm).mono ?_
  rintro e w1 ⟨rfl, hb1⟩
  have v3 := Var.below hvs.2 hb1 (by simp)
  have hb1' : Below w.heap.size w w1 := hbs.trans (hb1.mono (by simp; omega))
  clear hvs hbs hb1
  obtain ⟨e0, e1, e2, e3, f3⟩ := v3.cells4
  have l3 := v3.lt
  go_wp2
  refine bodyPost_ret (v := .tuple #[.agg #[.slice none 0 0, .int .i64 0, .int .i64 0, .bool false], .int .i64 2]) (by simp [results, Tryd.results18, go_sem, e0, e1, e2, e3]) rfl (disk_out rfl (Seen.nil _ _ _) (Nat.le_refl _) v3 disk_noText (by omega) hb1')

set_option maxRecDepth 100000 in
set_option maxHeartbeats 4000000 in
theorem ref_crash_valid (A K : Option Addr) (n c B kn kc : Nat) (fs : List Fl) (keep : List Int) (cap left : Int) (down : Bool) (w : World) (hn : fs.length = n) (hs : Seen w B A (fcells fs)) (hB : B ≤ w.heap.size) (hc : check ⟨fs, cap, left, down⟩ = true)
    (hkn : keep.length = kn) (hks : Seen w B K (keep.map (Value.int .i64))) (hkw : ∀ x ∈ keep, -9223372036854775808 ≤ x ∧ x ≤ 9223372036854775807) :
    Calls Tryd.prog 18 #[.agg #[.slice A n c, .int .i64 cap, .int .i64 left, .bool down], .slice K kn kc] w (DiskRes ((lefts fs keep).filter (fun f => !bare f)) cap (-1) false 0 w) := by
  have HN := Lib.hid hn
  have HC := Lib.hid hc
  have HCC : Hid (code (check ⟨fs, cap, left, down⟩) = 0) := by show _ = _; rw [hc]; rfl
  have HKN := Lib.hid hkn
  have hsm := check_small hc
  have hn64 : n ≤ 64 := by rw [← hn]; exact (check_parts hc).1
  clear hn hc hkn
  go_enter Tryd.func18, Tryd.ntmps18
  go_wp2_with fail
  have hvs := new2 w #[.slice A n c, .int .i64 cap, .int .i64 left, .bool down] #[.slice none 0 0, .int .i64 0, .int .i64 0, .bool false] 24 24
  have hbs := bel2 w #[.slice A n c, .int .i64 cap, .int .i64 left, .bool down] #[.slice none 0 0, .int .i64 0, .int .i64 0, .bool false] 24 24
  refine (ref_check_any A n c B fs cap left down 0 _ HN.out HCC.out (hs.below (hbs.mono hB)) (by simp; omega) hsm).mono ?_
  rintro e w1 ⟨rfl, hb1⟩
  have v1 := Var.below hvs.1 hb1 (by simp; omega)
  have v3 := Var.below hvs.2 hb1 (by simp)
  have hb1' : Below w.heap.size w w1 := hbs.trans (hb1.mono (by simp; omega))
  clear hvs hbs hb1
  obtain ⟨d0, d1, d2, d3, f1⟩ := v1.cells4
  obtain ⟨e0, e1, e2, e3, f3⟩ := v3.cells4
  have l1 := v1.lt
  have l3 := v3.lt
  obtain ⟨W2, hW2⟩ : ∃ W2, W2 = w1.alloc (.cells #[.slice none 0 0, .int .i64 cap, .int .i64 (-1), .bool false] 24) := ⟨_, rfl⟩
  obtain ⟨g6, hg6⟩ : ∃ g6, g6 = w1.heap.size := ⟨_, rfl⟩
  have hg6z : w.heap.size + 2 ≤ g6 := by omega
  have st0 : CrSt B A K fs keep n c cap left down g6 [] none 0 0 w W2 := by
    have hbx := bel1 w1 #[.slice none 0 0, .int .i64 cap, .int .i64 (-1), .bool false] 24
    rw [hW2, hg6]
    exact ⟨v1.alloc _, v3.alloc _, new1 w1 _ _, World.ownsRow_nil _ _ _ _, (hs.below (hb1'.mono hB)).below (hbx.mono (Nat.le_trans hB hb1'.size)), (hks.below (hb1'.mono hB)).below (hbx.mono (Nat.le_trans hB hb1'.size)), hb1'.trans (hbx.mono hb1'.size)⟩
  go_upto_region 4 with fail
  rw [← hW2, ← hg6]
  clear hW2 hg6 v1 v3 hb1' d0 d1 d2 d3 e0 e1 e2 e3 f1 f3 l1 l3
  go_wp2
  go_loopw [7] (fun i wr => ∃ (k m : Nat) (R : List Fl) (A1 : Option Addr) (c1 : Nat), k ≤ n ∧ i = .int .i64 k ∧ ((lefts fs keep).take k).filter (fun f => !bare f) = R ∧ R.length = m ∧ m ≤ k ∧ CrSt B A K fs keep n c cap left down g6 R A1 m c1 w wr) (fun i _ => n - (intOf i).toNat)
  case atStart => exact ⟨0, 0, [], none, 0, by omega, rfl, rfl, rfl, Nat.le_refl _, st0⟩
  case round =>
    obtain ⟨k, m, R, A1, c1, hk, rfl, hR, hm, hmk, st⟩ := hrel
    have HR := Lib.hid hR
    have HM := Lib.hid hm
    clear hR hm st0
    obtain ⟨d0, d1, d2, d3, f1⟩ := st.d.cells4
    have l1 := st.d.lt
    have hbz := st.b.size
    by_cases hlt : k < n
    · obtain ⟨f, hf⟩ := file_here HN.out hlt
      have hok := (check_sorted HC.out).2 f (List.mem_of_getElem? hf)
      have hsmall := hsm.2 f (List.mem_of_getElem? hf)
      obtain ⟨_, hb0, hs1, hs2⟩ := okFl_parts hok
      have HNX := Lib.hid (lefts_next (keep := keep) hf)
      obtain ⟨bx, ox, hAx, _⟩ := file_at st.s hf
      subst hAx
      obtain ⟨hbx, p0, p1, p2⟩ := file_cells st.s hf
      have hbw : bx < wr.heap.size := by omega
      obtain ⟨fn, fb, s⟩ := f
      simp only at hb0 hs1 hs2 hsmall p0 p1 p2
      obtain ⟨hfb, hfn⟩ := hsmall
      obtain ⟨x, hlm, hx1, hxv⟩ := left_is fn fb s keep[k]? hs1 hs2
      obtain ⟨sn, rfl⟩ : ∃ sn : Nat, s = sn := ⟨s.toNat, by omega⟩
      obtain ⟨q, hq⟩ : ∃ q : Nat, (q : Int) = (x : Int) - (sn : Int) := by
        refine ⟨((x : Int) - sn).toNat, ?_⟩
        have : (sn : Int) ≤ x := by
          rw [hxv]
          cases keep[k]? with
          | none => simp only; omega
          | some kv => simp only; omega
        omega
      have HLM := Lib.hid hlm
      have HXV := Lib.hid hxv
      have HQ := Lib.hid hq
      clear hf hok hlm hxv hq
      go_upto_if 32 with fail
      go_cut [9] (fun s9 wx => s9 = .int .i64 (q : Int) ∧ ∃ j, wx = (wr.alloc (.cells #[.string fn, .string fb, .int .i64 sn] 41)).drewN j)
      case first =>
        by_cases hki : k < kn
        · obtain ⟨kv, hkv⟩ : ∃ kv, keep[k]? = some kv := ⟨_, List.getElem?_eq_getElem (by rw [HKN.out]; exact hki)⟩
          obtain ⟨hkv1, hkv2⟩ := hkw kv (List.mem_of_getElem? hkv)
          have hkse := st.ks
          obtain ⟨kb, ko, hKx, hkb, hkc⟩ := hkse (by intro e; rw [List.map_eq_nil_iff] at e; rw [e] at hkv; simp at hkv)
          subst hKx
          have y0 := hkc k (.int .i64 kv) (by rw [List.getElem?_map, hkv]; rfl)
          have hmv := HXV.out
          rw [hkv] at hmv
          simp only at hmv
          have hmq : max 0 (min kv ((fb.size : Int) - (sn : Int))) = (q : Int) := by have := HQ.out; omega
          have HMQ := Lib.hid hmq
          have hkl : kb < wr.heap.size := by omega
          have y1 : IntKind.i64.wrap ((fb.size : Int) - (sn : Int)) = (fb.size : Int) - (sn : Int) := IntWalk.i64_in _ (by omega)
          clear hkv hkc hmv hmq hkse
          go_wp2_with fail
          refine wp_region_quiet_lit (by kernel_rfl) (by kernel_rfl) ?_
          repeat (go_big_quiet_step (fail))
          all_goals (refine wpQuiet_nil ?_; intro _ hw'; obtain ⟨nq, hw''⟩ := hw'; subst hw'')
          go_wp2_with fail
          go_meet
          exact ⟨congrArg (Value.int .i64) HMQ.out, _, rfl⟩
        · have hmv := HXV.out
          rw [List.getElem?_eq_none (by rw [HKN.out]; omega)] at hmv
          simp only at hmv
          have hq0 : (q : Int) = 0 := by have := HQ.out; omega
          have HQ0 := Lib.hid hq0
          clear hmv hq0
          go_wp2_with fail
          go_meet
          exact ⟨by rw [HQ0.out], 0, rfl⟩
      case rest =>
        obtain ⟨rfl, j, rfl⟩ := hcut
        obtain ⟨w4, hw4⟩ : ∃ w4, w4 = (wr.alloc (.cells #[.string fn, .string fb, .int .i64 sn] 41)).drewN j := ⟨_, rfl⟩
        have hb4 : Below wr.heap.size wr w4 := by rw [hw4]; exact (bel1 wr _ _).drewN' _
        have u4 : Var w4 wr.heap.size 41 #[.string fn, .string fb, .int .i64 sn] := by rw [hw4]; exact new1 wr _ _
        rw [← hw4]
        clear hw4 d0 d1 d2 d3 f1 p0 p1 p2 l1
        obtain ⟨i0, i1, i2, f4⟩ := u4.cells3
        have l4 := u4.lt
        obtain ⟨g8, hg8⟩ : ∃ g8, g8 = wr.heap.size := ⟨_, rfl⟩
        have hx5 : (fb.extract 0 x).size = x := by rw [ByteArray.size_extract]; omega
        obtain ⟨W6, hW6⟩ : ∃ W6, W6 = (w4.setCell ⟨wr.heap.size, 1, none⟩ (.string (fb.extract 0 x))).setCell ⟨wr.heap.size, 2, none⟩ (.int .i64 (x : Int)) := ⟨_, rfl⟩
        have hb6 : Below wr.heap.size wr W6 := by rw [hW6]; exact (hb4.setCell (Nat.le_refl _) _).setCell (Nat.le_refl _) _
        have u6 : Var W6 wr.heap.size 41 #[.string fn, .string (fb.extract 0 x), .int .i64 x] := by rw [hW6]; simpa using (u4.set 1 (.string (fb.extract 0 x))).set 2 (.int .i64 (x : Int))
        have st6 := st.next hB hb6
        have y2 : (sn : Int) + (q : Int) = (x : Int) := by have := HQ.out; omega
        go_upto_region 13 with fail
        rw [← hW6]
        clear hW6 y2 i0 i1 i2 f4 l4 hb4 u4 hx5
        obtain ⟨i0, i1, i2, f4⟩ := u6.cells3
        obtain ⟨o0, o1, o2, o3, f5⟩ := st6.o.cells4
        have l4 := u6.lt
        have l5 := st6.o.lt
        have hx5 : (fb.extract 0 x).size = x := by rw [ByteArray.size_extract]; omega
        by_cases hx0 : 0 < x
        · have hbare : bare ⟨fn, fb.extract 0 x, (x : Int)⟩ = false := by unfold bare; simp only [hx5]; exact decide_eq_false (by omega)
          have HN2 : Hid (((lefts fs keep).take (k + 1)).filter (fun f => !bare f) = R ++ [⟨fn, fb.extract 0 x, (x : Int)⟩]) := by
            show _ = _
            rw [HNX.out, HR.out, HLM.out, hbare]; rfl
          have t1 : decide ((0 : Int) < (x : Int)) = true := decide_eq_true (by omega)
          clear HNX hbare
          go_wp2_with (at_builtin; refine wpList_append_own3 rfl (.tmp 62) (.tmp 64) rfl (base := g6 + 1) (B2 := W6.heap.size + 1) (A2 := some ⟨W6.heap.size, 0, none⟩) (n := m) (m := 1) (c := 1) (xs := fcells R) (news := fcells [⟨fn, fb.extract 0 x, (x : Int)⟩]) (v := .slice A1 m c1) rfl rfl ?g1 rfl (fcells_one _) ?g2 ?g3 ?g4 ?_)
          case g1 => exact (st6.next hB ((Below.refl _ W6).alloc (Nat.le_refl _) _)).own
          case g2 => exact Seen.one W6 ⟨fn, fb.extract 0 x, (x : Int)⟩ _
          case g3 => have h1 := hb6.size; have h2 := st6.o.lt; omega
          case g4 => omega
          intro A2 c2 W7 hown hb7
          rw [← fcells_append] at hown
          have st7 := st6.app hB hg6z hown hb7
          have o7 := Var.below (st6.o.alloc _) hb7 (by omega)
          obtain ⟨j0, j1, j2, j3, f6⟩ := o7.cells4
          have l7 := o7.lt
          clear hown hb7 o0 o1 o2 o3 f5 i0 i1 i2 f4
          go_wp2
          go_roundw
          case rel => exact ⟨k + 1, m + 1, R ++ [⟨fn, fb.extract 0 x, (x : Int)⟩], A2, c2, by omega, by go_num, HN2.out, by simp [HM.out], by omega, st7⟩
          case measure => simp [intOf]; omega
        · have hbare : bare ⟨fn, fb.extract 0 x, (x : Int)⟩ = true := by unfold bare; simp only [hx5]; exact decide_eq_true (by omega)
          have HN2 : Hid (((lefts fs keep).take (k + 1)).filter (fun f => !bare f) = R) := by
            show _ = _
            rw [HNX.out, HR.out, HLM.out, hbare]; simp
          have t1 : decide ((0 : Int) < (x : Int)) = false := bool_dec _ (by omega)
          clear HNX hbare
          go_wp2
          go_roundw
          case rel => exact ⟨k + 1, m, R, A1, c1, by omega, by go_num, HN2.out, HM.out, by omega, st6⟩
          case measure => simp [intOf]; omega
    · obtain rfl : k = n := by omega
      have HALL : Hid ((lefts fs keep).filter (fun f => !bare f) = R) := by
        show _ = _
        rw [← HR.out, List.take_of_length_le (by rw [lefts_length]; have := HN.out; omega)]
      obtain ⟨e0, e1, e2, e3, f3⟩ := st.r.cells4
      obtain ⟨o0, o1, o2, o3, f5⟩ := st.o.cells4
      have l3 := st.r.lt
      have l5 := st.o.lt
      obtain ⟨hseen, hcc⟩ := Seen.of_own3 st.own
      clear HR
      go_wp2
      refine bodyPost_ret (v := .tuple #[.agg #[.slice A1 m c1, .int .i64 cap, .int .i64 (-1), .bool false], .int .i64 0]) (by simp [results, Tryd.results18, go_sem, e0, e1, e2, e3]) rfl ?_
      rw [HALL.out]
      exact disk_out HM.out hseen hcc st.r disk_noText (by omega) st.b

theorem ref_crash_any (A K : Option Addr) (n c B kn kc : Nat) (fs fs' : List Fl) (keep : List Int) (cap left cap' left' : Int) (down down' : Bool) (r : Int) (w : World) (hn : fs.length = n) (hs : Seen w B A (fcells fs)) (hB : B ≤ w.heap.size) (hsm : Small fs)
    (hkn : keep.length = kn) (hks : Seen w B K (keep.map (Value.int .i64))) (hkw : ∀ x ∈ keep, -9223372036854775808 ≤ x ∧ x ≤ 9223372036854775807) (hr : crash ⟨fs, cap, left, down⟩ keep = (⟨fs', cap', left', down'⟩, r)) :
    Calls Tryd.prog 18 #[.agg #[.slice A n c, .int .i64 cap, .int .i64 left, .bool down], .slice K kn kc] w (DiskRes fs' cap' left' down' r w) := by
  unfold crash at hr
  cases hc : check ⟨fs, cap, left, down⟩
  · rw [if_pos hc] at hr
    simp only [noDisk, Prod.mk.injEq, Dk.mk.injEq] at hr
    obtain ⟨⟨rfl, rfl, rfl, rfl⟩, rfl⟩ := hr
    exact ref_crash_bad A K n c B kn kc fs cap left down w hn hs hB hsm hc
  · rw [if_neg (by rw [hc]; simp)] at hr
    simp only [Prod.mk.injEq, Dk.mk.injEq] at hr
    obtain ⟨⟨rfl, rfl, rfl, rfl⟩, rfl⟩ := hr
    have e : (fun f : Fl => decide (0 < f.b.size)) = (fun f => !bare f) := by
      funext f
      unfold bare
      by_cases h : 0 < f.b.size
      · rw [decide_eq_true h, decide_eq_false (by omega)]; rfl
      · rw [decide_eq_false h, decide_eq_true (by omega)]; rfl
    rw [e]
    exact ref_crash_valid A K n c B kn kc fs keep cap left down w hn hs hB hc hkn hks hkw
theorem crash_any (A K : Option Addr) (n c B kn kc : Nat) (fs fs' : List Fl) (keep : List Int) (cap left cap' left' : Int) (down down' : Bool) (r : Int) (w : World) (hn : fs.length = n) (hs : Seen w B A (fcells fs)) (hB : B ≤ w.heap.size) (hsm : Small fs)
    (hkn : keep.length = kn) (hks : Seen w B K (keep.map (Value.int .i64))) (hkw : ∀ x ∈ keep, -9223372036854775808 ≤ x ∧ x ≤ 9223372036854775807) (hr : crash ⟨fs, cap, left, down⟩ keep = (⟨fs', cap', left', down'⟩, r)) :
    Calls Tryd.prog 17 #[.agg #[.slice A n c, .int .i64 cap, .int .i64 left, .bool down], .slice K kn kc] w (DiskRes fs' cap' left' down' r w) := by
  unfold crash at hr
  cases hc : check ⟨fs, cap, left, down⟩
  · rw [if_pos hc] at hr
    simp only [noDisk, Prod.mk.injEq, Dk.mk.injEq] at hr
    obtain ⟨⟨rfl, rfl, rfl, rfl⟩, rfl⟩ := hr
    exact crash_invalid A K n c B kn kc fs cap left down w hn hs hB hsm hc
  · rw [if_neg (by rw [hc]; simp)] at hr
    simp only [Prod.mk.injEq, Dk.mk.injEq] at hr
    obtain ⟨⟨rfl, rfl, rfl, rfl⟩, rfl⟩ := hr
    have e : (fun f : Fl => decide (0 < f.b.size)) = (fun f => !bare f) := by
      funext f
      unfold bare
      by_cases h : 0 < f.b.size
      · rw [decide_eq_true h, decide_eq_false (by omega)]; rfl
      · rw [decide_eq_false h, decide_eq_true (by omega)]; rfl
    rw [e]
    exact crash_valid A K n c B kn kc fs keep cap left down w hn hs hB hc hkn hks hkw
end Go.Proofs.YtbglpmjfajmkdaaDoor
