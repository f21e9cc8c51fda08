/-
  The law DiskSure: its walk. Conditions: those that each theorem names.
-/
import Derived.Test.YtbglpmjfajmkdaaDoorDskSureMap
import Derived.Test.YtbglpmjfajmkdaaDoorDskActsIn
namespace Go.Proofs.YtbglpmjfajmkdaaDoor
open Go.RowKit DP

theorem below_grown {w w' : World} (h : Below w.heap.size w w') : w.grownBy w' none := ⟨h.os, h.tape, h.output, h.size, fun k hk _ => h.block k hk⟩
theorem ranges_iter {w : World} {b r n cnt : Nat} {D : DataW Unit} {left : Lit → Bool} (h : w.ranges Tryd.prog 9 sureR b r n D left cnt) : ∃ since seen c0, w.heap[r]? = some (.mapIter (some b) since seen c0) := by
  obtain ⟨_, _, since, seen, c0, _, _, _, _, hr, _⟩ := h
  exact ⟨since, seen, c0, hr⟩
/-- Behind a step of the loop over the map. -/
theorem Su.iter {g5 gm r q cnt : Nat} {fs : List Fl} {cap left : Int} {down : Bool} {A1 : Option Addr} {m1 c1 : Nat} {σ : ByteArray → ByteArray} {S : Option Addr} {l : List AcM} {w W W' : World} {D : DataW Unit} {lft : Lit → Bool} (h : Su g5 gm fs cap left down A1 m1 c1 σ q S l w W)
    (hr : W.ranges Tryd.prog 9 sureR gm r q D lft cnt) (hg : W.grownBy W' (some r)) (hz : w.heap.size ≤ r) : Su g5 gm fs cap left down A1 m1 c1 σ q S l w W' := by
  obtain ⟨since, seen, c0, hit⟩ := ranges_iter hr
  have hb : Below w.heap.size W W' := grown_below hg h.b.size (fun g e => by injection e with e; omega)
  have n5 : g5 ≠ r := by
    intro e
    have hx := h.x
    unfold Var at hx
    rw [e, hit] at hx
    cases hx
  refine ⟨(hg.block g5 h.x.lt (by intro e; injection e with e; exact n5 e)).trans h.x, ?_, h.mp.of (hg.block gm h.mp.lt (by intro e; injection e with e; exact hr.ne e.symm)), h.sc.below hb, h.b.trans hb⟩
  intro hx
  obtain ⟨b', off, hA, hlt, hc⟩ := h.sx hx
  have hne : b' ≠ r := by
    intro e
    subst e
    cases fs with
    | nil => exact hx rfl
    | cons f rr =>
      have h0 := hc 0 (.string f.n) (by simp [fcells])
      unfold World.cell? at h0
      rw [hit] at h0
      cases h0
  exact ⟨b', off, hA, Nat.lt_of_lt_of_le hlt hg.size, fun j u hu => hg.cell (hc j u hu) (by intro e; injection e with e; exact hne e)⟩

set_option maxRecDepth 100000 in
set_option maxHeartbeats 8000000 in
theorem sure_great (k : Int) (A : Option Addr) (n c : Nat) (l : List AcM) (w : World) (hn : l.length = n) (hs : Script w w.heap.size A l) (hmax : n ≤ 9223372036854775807) (hsz : ∀ x ∈ l, AcFits x) (hG : Glob w) (hgr : greatA l = true) :
    Calls Tryd.prog 5 #[.int .i64 k, .slice A n c] w fun e w' => e = .returned (.bool true) ∧ Below w.heap.size w w' := by
  have HN := Lib.hid hn
  have HGR := Lib.hid hgr
  have HG := Lib.hid hG
  have HS := Lib.hid hs
  clear hn hgr hG hs
  go_enter Tryd.func5, Tryd.ntmps5
  go_wp2_with fail
  refine (greatA_any A n c w.heap.size l true _ HN.out HGR.out HS.out (Nat.le_refl _) hmax hsz).mono ?_
  rintro e W1 ⟨rfl, hb1⟩
  go_wp2_with fail
  refine (wakes_any _ (HG.out.next hb1)).mono ?_
  rintro e W2 ⟨rfl, hx⟩
  have hb2 := hb1.trans (hx.mono hb1.size)
  go_wp2
  go_ret
  exact ⟨rfl, hb2⟩
set_option maxRecDepth 100000 in
set_option maxHeartbeats 8000000 in
theorem sure_low (most : Int) (S : Option Addr) (n c : Nat) (l : List AcM) (w : World) (hn : l.length = n) (hs : Script w w.heap.size S l) (hmax : n ≤ 9223372036854775807) (hsz : ∀ x ∈ l, AcFits x) (hG : Glob w) (hgr : greatA l = false) (hm : most < 0) :
    Calls Tryd.prog 5 #[.int .i64 most, .slice S n c] w fun e w' => e = .returned (.bool true) ∧ Below w.heap.size w w' := by
  have HN := Lib.hid hn
  have HGR := Lib.hid hgr
  have HG := Lib.hid hG
  have HS := Lib.hid hs
  have HSZ := Lib.hid hsz
  have hr0 : new most = (⟨[], 0, 0, false⟩, 2) := by unfold new; rw [if_pos (by omega)]; rfl
  have HR0 := Lib.hid hr0
  have t1 : decide (most < 0) = true := decide_eq_true hm
  clear hn hgr hG hs hsz hr0
  go_enter Tryd.func5, Tryd.ntmps5
  go_wp2_with fail
  refine (greatA_any S n c w.heap.size l false _ HN.out HGR.out HS.out (Nat.le_refl _) hmax HSZ.out).mono ?_
  rintro e W1 ⟨rfl, hb1⟩
  go_wp2_with fail
  refine (new_any most 0 0 [] false 2 _ HR0.out).mono ?_
  rintro e W2 ⟨A1, m1, c1, rfl, hl1, hs1, hm1, hx⟩
  have hb2 := hb1.trans (hx.mono hb1.size)
  have hb3 := hb2.alloc hb2.size (.cells #[.slice A1 m1 c1, .int .i64 0, .int .i64 0, .bool false] 24)
  clear hx hb1 hl1 hs1 hm1
  go_wp2_with fail
  refine (wakes_any _ (HG.out.next hb3)).mono ?_
  rintro e W4 ⟨rfl, hx⟩
  have hb4 := hb3.trans (hx.mono hb3.size)
  go_wp2
  go_ret
  exact ⟨rfl, hb4⟩
set_option maxRecDepth 100000 in
set_option maxHeartbeats 8000000 in
theorem sure_high (most : Int) (S : Option Addr) (n c : Nat) (l : List AcM) (w : World) (hn : l.length = n) (hs : Script w w.heap.size S l) (hmax : n ≤ 9223372036854775807) (hsz : ∀ x ∈ l, AcFits x) (hG : Glob w) (hgr : greatA l = false) (hm : 65536 < most) :
    Calls Tryd.prog 5 #[.int .i64 most, .slice S n c] w fun e w' => e = .returned (.bool true) ∧ Below w.heap.size w w' := by
  have HN := Lib.hid hn
  have HGR := Lib.hid hgr
  have HG := Lib.hid hG
  have HS := Lib.hid hs
  have HSZ := Lib.hid hsz
  have hr0 : new most = (⟨[], 0, 0, false⟩, 2) := by unfold new; rw [if_pos (by omega)]; rfl
  have HR0 := Lib.hid hr0
  have t1 : decide (most < 0) = false := bool_dec _ (by omega)
  have t2 : decide ((65536 : Int) < most) = true := decide_eq_true hm
  clear hn hgr hG hs hsz hr0
  go_enter Tryd.func5, Tryd.ntmps5
  go_wp2_with fail
  refine (greatA_any S n c w.heap.size l false _ HN.out HGR.out HS.out (Nat.le_refl _) hmax HSZ.out).mono ?_
  rintro e W1 ⟨rfl, hb1⟩
  go_wp2_with fail
  refine (new_any most 0 0 [] false 2 _ HR0.out).mono ?_
  rintro e W2 ⟨A1, m1, c1, rfl, hl1, hs1, hm1, hx⟩
  have hb2 := hb1.trans (hx.mono hb1.size)
  have hb3 := hb2.alloc hb2.size (.cells #[.slice A1 m1 c1, .int .i64 0, .int .i64 0, .bool false] 24)
  clear hx hb1 hl1 hs1 hm1
  go_wp2_with fail
  refine (wakes_any _ (HG.out.next hb3)).mono ?_
  rintro e W4 ⟨rfl, hx⟩
  have hb4 := hb3.trans (hx.mono hb3.size)
  go_wp2
  go_ret
  exact ⟨rfl, hb4⟩
set_option maxRecDepth 100000 in
set_option maxHeartbeats 16000000 in
theorem sure_main (most : Int) (S : Option Addr) (n c : Nat) (l : List AcM) (w : World) (hn : l.length = n) (hs : Script w w.heap.size S l) (hmax : n ≤ 9223372036854775807) (hsz : ∀ x ∈ l, AcFits x) (hG : Glob w) (hgr : greatA l = false) (hm0 : 0 ≤ most) (hm1 : most ≤ 65536) :
    Calls Tryd.prog 5 #[.int .i64 most, .slice S n c] w fun e w' => e = .returned (.bool true) ∧ Below w.heap.size w w' := by
  have HN := Lib.hid hn
  have HGR := Lib.hid hgr
  have HG := Lib.hid hG
  have HS := Lib.hid hs
  have HSZ := Lib.hid hsz
  obtain ⟨hn100, hparts⟩ := greatA_parts hgr
  rw [hn] at hn100
  have HP := Lib.hid hparts
  have hr0 : new most = (⟨[], most, -1, false⟩, 0) := by unfold new; rw [if_neg (by omega)]
  have HR0 := Lib.hid hr0
  have HF0 := Lib.hid (fine_new hr0)
  have hmm := @run_makeMap Tryd.prog
  clear hn hgr hG hs hsz hparts hr0
  go_enter Tryd.func5, Tryd.ntmps5
  go_wp2_with fail
  refine (greatA_any S n c w.heap.size l false _ HN.out HGR.out HS.out (Nat.le_refl _) hmax HSZ.out).mono ?_
  rintro e W1 ⟨rfl, hb1⟩
  go_wp2_with fail
  refine (new_any most most (-1) [] false 0 _ HR0.out).mono ?_
  rintro e W2 ⟨A1, m1, c1, rfl, hl1, hs1, hm1_, hx⟩
  have HL1 := Lib.hid hl1
  have hb2 := hb1.trans (hx.mono hb1.size)
  clear hx hb1 hl1
  go_upto_region 4 with fail
  obtain ⟨W3, hW3⟩ : ∃ W3, W3 = W2.alloc (.cells #[.slice A1 m1 c1, .int .i64 most, .int .i64 (-1), .bool false] 24) := ⟨_, rfl⟩
  obtain ⟨g5, hg5⟩ : ∃ g5, g5 = W2.heap.size := ⟨_, rfl⟩
  have hbx := bel1 W2 #[.slice A1 m1 c1, .int .i64 most, .int .i64 (-1), .bool false] 24
  have x3 := new1 W2 #[.slice A1 m1 c1, .int .i64 most, .int .i64 (-1), .bool false] 24
  have sx3 := (hs1.below hbx).up hbx.size
  have hb3 := hb2.trans (hbx.mono hb2.size)
  have hz5 : w.heap.size ≤ g5 := by rw [hg5]; exact hb2.size
  rw [← hW3] at hbx x3 sx3 hb3 ⊢
  rw [← hg5] at x3 ⊢
  clear hW3 hg5 hbx hs1 hb2
  obtain ⟨gm, hgm⟩ : ∃ gm, gm = W3.heap.size := ⟨_, rfl⟩
  obtain ⟨W4, hW4⟩ : ∃ W4, W4 = W3.alloc (.map #[] 0) := ⟨_, rfl⟩
  have hb4 : Below W3.heap.size W3 W4 := by rw [hW4]; exact (Below.refl _ _).alloc (Nat.le_refl _) _
  have h4 : Su g5 gm [] most (-1) false A1 m1 c1 (fun _ => none_) 0 S l w W4 := by
    refine ⟨x3.below hb4 x3.lt, (sx3.below hb4).up hb4.size, ?_, (HS.out.below hb3).below (hb4.mono hb3.size), hb3.trans (hb4.mono hb3.size)⟩
    rw [hW4, hgm]
    exact Mp.made W3
  have nm5 : gm ≠ g5 := by rw [hgm]; have := x3.lt; omega
  have n5m : g5 ≠ gm := Ne.symm nm5
  have hzm : w.heap.size ≤ gm := by rw [hgm]; exact hb3.size
  go_wp2
  rw [← hW4, ← hgm]
  clear hW4 hgm hb4 x3 sx3 hb3 hmm
  go_loopw [41] (fun i wr => ∃ (k q : Nat) (fs : List Fl) (cap left : Int) (down : Bool) (A1 : Option Addr) (m1 c1 : Nat) (σ : ByteArray → ByteArray), k ≤ n ∧ i = .int .i64 k ∧ Fine ⟨fs, cap, left, down⟩ ∧ fs.length = m1 ∧ m1 ≤ c1 ∧ Holds fs σ ∧ q ≤ 101 * k ∧ Su g5 gm fs cap left down A1 m1 c1 σ q S l w wr) (fun i _ => n - (intOf i).toNat)
  case atStart => exact ⟨0, 0, [], most, -1, false, A1, m1, c1, fun _ => none_, by omega, rfl, HF0.out, HL1.out, hm1_, ⟨(fun f hf => by cases hf), fun _ _ => rfl⟩, by omega, h4⟩
  case round =>
    clear h4 hm1_ HL1 HR0 HF0
    obtain ⟨k, q, fs, cap, left, down, A1, m1, c1, σ, hk, rfl, hfine, hl1, hm1, hh, hq, h5⟩ := hrel
    have HF := Lib.hid hfine
    have HL1 := Lib.hid hl1
    have HH := Lib.hid hh
    clear hfine hl1 hh
    by_cases hlt : k < n
    · obtain ⟨x, hx⟩ := act_here HN.out hlt
      obtain ⟨hp1, hp2, hp3⟩ := HP.out x (List.mem_of_getElem? hx)
      obtain ⟨_, _, hkw, hnum⟩ := HSZ.out x (List.mem_of_getElem? hx)
      have hks := h5.sc.2 x (List.mem_of_getElem? hx)
      obtain ⟨bb, off, hSx, hbb, q0, q1, q2, q3, q4, q5, q6⟩ := act_at h5.sc hx
      subst hSx
      have hbr : bb < wr.heap.size := by have := h5.b.size; omega
      clear hx
      obtain ⟨⟨act, ⟨op, file, b, k_⟩, keep, num⟩, K, kc⟩ := x
      simp only at q0 q1 q2 q3 q4 q5 q6 hp1 hp2 hp3 hkw hnum hks
      obtain ⟨fo, capo, lefto, downo, ro, h2⟩ : ∃ f1 cap1 left1 down1 r1, behind ⟨fs, cap, left, down⟩ ⟨act, ⟨op, file, b, k_⟩, keep, num⟩ = (⟨f1, cap1, left1, down1⟩, r1) := ⟨_, _, _, _, _, rfl⟩
      have HB := Lib.hid h2
      have hfz := fine_behind HF.out hnum h2
      have HFZ := Lib.hid hfz
      have HKEEP := Lib.hid (keeps_act HF.out HH.out h2)
      have HPW := Lib.hid (check_sorted hfz.1).1
      have HOK := Lib.hid (check_sorted hfz.1).2
      have hm64 := (check_parts hfz.1).1
      simp only at hm64
      clear h2 hfz
      obtain ⟨d0, d1, d2, d3, f1⟩ := h5.x.cells4
      have l1 := h5.x.lt
      go_upto_region 10 with fail
      obtain ⟨W6, hW6⟩ : ∃ W6, W6 = wr.alloc (.cells #[.int .i64 act, .int .i8 op, .string file, .string b, .int .i64 k_, .slice K keep.length kc, .int .i64 num] 51) := ⟨_, rfl⟩
      obtain ⟨g9, hg9⟩ : ∃ g9, g9 = wr.heap.size := ⟨_, rfl⟩
      have hb6 := bel1 wr #[.int .i64 act, .int .i8 op, .string file, .string b, .int .i64 k_, .slice K keep.length kc, .int .i64 num] 51
      have a6 := new1 wr #[.int .i64 act, .int .i8 op, .string file, .string b, .int .i64 k_, .slice K keep.length kc, .int .i64 num] 51
      have h6 := h5.next hb6
      have hks6 := (hks.below (hb6.mono h5.b.size)).up (Nat.le_trans h5.b.size hb6.size)
      rw [← hW6] at a6 h6 hks6 ⊢
      rw [← hg9] at a6 ⊢
      have n59 : g9 ≠ g5 := by rw [hg9]; omega
      have n9m : g9 ≠ gm := by rw [hg9]; have := h5.mp.lt; omega
      clear hW6 hg9 hb6 h5 hks q0 q1 q2 q3 q4 q5 q6
      clear d0 d1 d2 d3 f1 l1
      obtain ⟨d0, d1, d2, d3, f1⟩ := h6.x.cells4
      have l1 := h6.x.lt
      obtain ⟨i0, i1, i2, i3, i4, i5, i6, f3⟩ := a6.cells7
      have l3 := a6.lt
      go_wp2_with fail
      refine (does_law A1 m1 c1 W6.heap.size fs cap left down act op file b k_ K kc keep num _ HL1.out h6.sx (Nat.le_refl _) hm1 HF.out hks6 (by omega) hp1 hkw (HG.out.next h6.b) fo capo lefto downo ro HB.out).mono ?_
      rintro e W7 ⟨A3, m3, c3, rfl, hl3, hs3, hm3, hx⟩
      have HL3 := Lib.hid hl3
      have h7 := h6.next hx
      have a7 := a6.below hx a6.lt
      rw [hl3] at hm64
      clear hx h6 hl3 a6 hks6 i0 i1 i2 i3 i4 i5 i6 f3 l3
      clear d0 d1 d2 d3 f1 l1
      obtain ⟨d0, d1, d2, d3, f1⟩ := h7.x.cells4
      have l1 := h7.x.lt
      go_upto_region 12 with fail
      obtain ⟨W9, hW9⟩ : ∃ W9, W9 = ((((W7.setCell ⟨g5, 0, none⟩ (.slice A3 m3 c3)).setCell ⟨g5, 1, none⟩ (.int .i64 capo)).setCell ⟨g5, 2, none⟩ (.int .i64 lefto)).setCell ⟨g5, 3, none⟩ (.bool downo)).alloc (.cells #[.slice A3 m3 c3, .int .i64 capo, .int .i64 lefto, .bool downo] 24) := ⟨_, rfl⟩
      have h8 := h7.setd (cap' := capo) (left' := lefto) (down' := downo) (m2 := m3) (c2 := c3) nm5 hz5 hs3
      have a8 := set4_other (a := .slice A3 m3 c3) (b := .int .i64 capo) (c := .int .i64 lefto) (d := .bool downo) a7 n59
      have h9 := h8.next (bel1 _ #[.slice A3 m3 c3, .int .i64 capo, .int .i64 lefto, .bool downo] 24)
      have a9 := a8.alloc (.cells #[.slice A3 m3 c3, .int .i64 capo, .int .i64 lefto, .bool downo] 24)
      rw [← hW9] at h9 a9 ⊢
      clear hW9 h7 h8 a7 a8 hs3
      clear d0 d1 d2 d3 f1 l1
      obtain ⟨u, hu⟩ : ∃ u, used fo = u := ⟨_, rfl⟩
      have HU := Lib.hid hu
      have HC : Hid (code (check ⟨fo, capo, lefto, downo⟩) = 0) := by show _ = _; rw [HFZ.out.1]; rfl
      have hsm := HFZ.out.small
      simp only at hsm
      have t1 : decide (capo < (u : Int)) = false := by
        have := (check_parts HFZ.out.1).2.2.2.1
        simp only [hu] at this
        exact bool_dec _ (by omega)
      have hx0 := fun (x : After W9) => (Var.cells4 (h9.x.below x.below h9.x.lt)).1
      have hx1 := fun (x : After W9) => (Var.cells4 (h9.x.below x.below h9.x.lt)).2.1
      have hx2 := fun (x : After W9) => (Var.cells4 (h9.x.below x.below h9.x.lt)).2.2.1
      have hx3 := fun (x : After W9) => (Var.cells4 (h9.x.below x.below h9.x.lt)).2.2.2.1
      have H9 := Lib.hid h9
      clear hu
      refine wp_region_after (by kernel_rfl) (by kernel_rfl) ?_
      repeat (go_big_quiet_step ((first
        | (go_at_call 23; with_reducible exact Calls.after (check_any A3 m3 c3 W9.heap.size fo capo lefto downo 0 _ HL3.out HC.out (H9.out.sx.below (After.below _)) (After.below _).size hsm))
        | (go_at_call 25; with_reducible exact Calls.after (used_any A3 m3 c3 W9.heap.size fo capo lefto downo u _ HL3.out HU.out (H9.out.sx.below (After.below _)) (After.below _).size hsm)))))
      refine wpQuiet_nil ?_
      rintro _ ⟨x, rfl⟩
      obtain ⟨Wa, hWa⟩ : ∃ Wa, Wa = x.val := ⟨_, rfl⟩
      have ha := h9.next x.below
      have aa := a9.below x.below a9.lt
      rw [← hWa] at ha aa ⊢
      clear hWa hx0 hx1 hx2 hx3 H9 h9 a9 t1 x
      obtain ⟨i0, i1, i2, i3, i4, i5, i6, f3⟩ := aa.cells7
      have l3 := aa.lt
      obtain ⟨d0, d1, d2, d3, f1⟩ := ha.x.cells4
      have l1 := ha.x.lt
      go_upto_region 14 with fail
      go_cut [80] (fun s80 wx => s80 = .bool (forgets ⟨act, ⟨op, file, b, k_⟩, keep, num⟩ ro) ∧ Wa = wx)
      case first =>
        by_cases a0 : act = 0
        · by_cases e0 : ro = 0
          · by_cases o0 : op = 0
            · have y3 : (op != 0) = false := by simp [o0]
              have hfg : forgets ⟨act, ⟨op, file, b, k_⟩, keep, num⟩ ro = false := by unfold forgets; simp [o0]
              have HFIN := Lib.hid hfg
              clear hfg
              subst a0 e0 o0
              go_wp2_with fail
              go_meet
              exact ⟨by rw [HFIN.out], rfl⟩
            · have y3 : (op != 0) = true := by simp [o0]
              by_cases o1 : op = 1
              · have y4 : (op != 1) = false := by simp [o1]
                have hfg : forgets ⟨act, ⟨op, file, b, k_⟩, keep, num⟩ ro = false := by unfold forgets; simp [o1]
                have HFIN := Lib.hid hfg
                clear hfg
                subst a0 e0 o1
                go_wp2_with fail
                go_meet
                exact ⟨by rw [HFIN.out], rfl⟩
              · have y4 : (op != 1) = true := by simp [o1]
                have hfg : forgets ⟨act, ⟨op, file, b, k_⟩, keep, num⟩ ro = true := by unfold forgets; simp [a0, e0, o0, o1]
                have HFIN := Lib.hid hfg
                clear hfg
                subst a0 e0
                go_wp2_with fail
                go_meet
                exact ⟨by rw [HFIN.out], rfl⟩
          · have y2 : (ro == 0) = false := by rw [beq_eq_false_iff_ne]; exact e0
            have hfg : forgets ⟨act, ⟨op, file, b, k_⟩, keep, num⟩ ro = false := by unfold forgets; simp [e0]
            have HFIN := Lib.hid hfg
            clear hfg
            subst a0
            go_wp2_with fail
            go_meet
            exact ⟨by rw [HFIN.out], rfl⟩
        · have y1 : (act == 0) = false := by rw [beq_eq_false_iff_ne]; exact a0
          have hfg : forgets ⟨act, ⟨op, file, b, k_⟩, keep, num⟩ ro = false := by unfold forgets; simp [a0]
          have HFIN := Lib.hid hfg
          clear hfg
          go_wp2_with fail
          go_meet
          exact ⟨by rw [HFIN.out], rfl⟩
      case rest =>
        obtain ⟨rfl, rfl⟩ := hcut
        obtain ⟨bf, hbf⟩ : ∃ bf, forgets ⟨act, ⟨op, file, b, k_⟩, keep, num⟩ ro = bf := ⟨_, rfl⟩
        have HBF := Lib.hid hbf
        rw [hbf]
        clear hbf
        go_upto_if 80 with fail
        go_cut [7] (fun s7 wx => s7 = .map (some gm) ∧ ∃ q', q' ≤ q + 1 ∧ Su g5 gm fo capo lefto downo A3 m3 c3 (forget σ ⟨act, ⟨op, file, b, k_⟩, keep, num⟩ ro) q' (some ⟨bb, off, none⟩) l w wx)
        case first =>
          cases bf
          · have HFIN : Hid (∃ q', q' ≤ q + 1 ∧ Su g5 gm fo capo lefto downo A3 m3 c3 (forget σ ⟨act, ⟨op, file, b, k_⟩, keep, num⟩ ro) q' (some ⟨bb, off, none⟩) l w Wa) := ⟨q, by omega, by unfold forget; rw [if_neg (by rw [HBF.out]; simp)]; exact ha⟩
            go_wp2_with fail
            go_meet
            exact ⟨rfl, HFIN.out⟩
          · have HFG : Hid (forget σ ⟨act, ⟨op, file, b, k_⟩, keep, num⟩ ro = setAt σ file none_) := by show _ = _; unfold forget; rw [if_pos HBF.out]
            obtain ⟨D, hown, hsays⟩ := ha.mp
            go_wp2_with (at_mapUpdate; refine wpList_mapUpdate_own _ rfl _ _ _ 54 rfl 9 41 sure_law Tryd.underlying54 sureR gm q D rfl hown (by unfold maxLen; omega) _ _ _ rfl rfl (Go.WideMaps.keyOf_string_mk Tryd.underlying9 (by unfold maxLen; omega)) _ [] (sureR_mk none_) ?_; intro W2 hown2 hgr2)
            have hfin := ha.putm n5m hzm hgr2 ⟨_, hown2, says_put hown.isMap hsays file none_⟩
            go_meet
            exact ⟨rfl, q + 1, Nat.le_refl _, by rw [HFG.out]; exact hfin⟩
        case rest =>
          obtain ⟨rfl, q', hq', hb⟩ := hcut
          obtain ⟨τ, hτ⟩ : ∃ τ, forget σ ⟨act, ⟨op, file, b, k_⟩, keep, num⟩ ro = τ := ⟨_, rfl⟩
          have hkeep := HKEEP.out
          rw [hτ] at hb hkeep
          have HK := Lib.hid hkeep
          clear ha aa i0 i1 i2 i3 i4 i5 i6 f3 l3 hkeep hτ HKEEP
          clear d0 d1 d2 d3 f1 l1
          obtain ⟨d0, d1, d2, d3, f1⟩ := hb.x.cells4
          have l1 := hb.x.lt
          go_wp2
          go_loopw [89] (fun i wr => ∃ (j q2 : Nat), j ≤ m3 ∧ i = .int .i64 j ∧ q2 ≤ q' + j ∧ Su g5 gm fo capo lefto downo A3 m3 c3 (remember τ (fo.take j)) q2 (some ⟨bb, off, none⟩) l w wr) (fun i _ => m3 - (intOf i).toNat)
          case atStart => exact ⟨0, q', by omega, rfl, by omega, hb⟩
          case round =>
            obtain ⟨j, q2, hj, rfl, hq2, hs⟩ := hrel
            clear hb
            clear d0 d1 d2 d3 f1 l1
            by_cases hlt2 : j < m3
            · obtain ⟨f, hf⟩ := file_here HL3.out hlt2
              have hfm := List.mem_of_getElem? hf
              have hok := HOK.out f hfm
              have hfront := HK.out.1 f hfm
              have hrn := remember_next (σ := τ) HPW.out hf
              have HRS := Lib.hid (remember_step (σ := τ) hf)
              have hns := okName_le (okFl_parts hok).1
              obtain ⟨_, _, p3_, p4_⟩ := okFl_parts hok
              obtain ⟨bx, ox, hAx, _⟩ := file_at hs.sx hf
              subst hAx
              obtain ⟨hbx, p0, p1, p2⟩ := file_cells hs.sx hf
              clear hf hfm hok
              obtain ⟨fn, fb, s_⟩ := f
              simp only at p0 p1 p2 hns p3_ p4_
              obtain ⟨sn, rfl⟩ : ∃ sn : Nat, s_ = sn := ⟨s_.toNat, by omega⟩
              rw [← hrn] at hfront
              obtain ⟨sv, hsv⟩ : ∃ sv, remember τ (fo.take j) fn = sv := ⟨_, rfl⟩
              simp only [hsv] at hfront hrn
              obtain ⟨v1, v2, v3, v4⟩ := hfront
              simp only at v1 v2 v3 v4
              have HSURE : Hid (surely ⟨fn, fb, (sn : Int)⟩ = fb.extract 0 sn) := by show _ = _; unfold surely; simp
              obtain ⟨d0, d1, d2, d3, f1⟩ := hs.x.cells4
              have l1 := hs.x.lt
              go_upto_region 19 with fail
              obtain ⟨W5, hW5⟩ : ∃ W5, W5 = wr.alloc (.cells #[.string fn, .string fb, .int .i64 (sn : Int)] 41) := ⟨_, rfl⟩
              obtain ⟨g13, hg13⟩ : ∃ g13, g13 = wr.heap.size := ⟨_, rfl⟩
              have hbz := bel1 wr #[.string fn, .string fb, .int .i64 (sn : Int)] 41
              have h5 := hs.next hbz
              have u5 := new1 wr #[.string fn, .string fb, .int .i64 (sn : Int)] 41
              rw [← hW5] at h5 u5 ⊢
              rw [← hg13] at u5 ⊢
              have n13 : g13 ≠ gm := by rw [hg13]; have := hs.mp.lt; omega
              clear hW5 hg13 hbz hs p0 p1 p2 hbx
              clear d0 d1 d2 d3 f1 l1
              have hlk := h5.mp.lookup fn (by unfold maxLen; omega)
              rw [hsv] at hlk
              have hfd : ∀ W, (Instr.field 41 (.agg #[.string { data := #[] }, .string sv, .int .i64 0]) 1).run Tryd.prog W = .ok (.string sv) W := fun W => by kernel_rfl
              obtain ⟨e0, e1, e2, f2⟩ := u5.cells3
              have l2 := u5.lt
              have t1 : decide ((fb.size : Int) < (sv.size : Int)) = false := bool_dec _ (by omega)
              have t2 : ((fb.extract 0 sv.size).toList == sv.toList) = true := by rw [v2]; simp
              have t3 : decide ((sn : Int) < (sv.size : Int)) = false := bool_dec _ (by omega)
              have t4 : decide ((fb.size : Int) < (sn : Int)) = false := bool_dec _ (by omega)
              have hsl : sv.size ≤ fb.size := v1
              have HV2 := Lib.hid v2
              clear hrn v2
              go_wp2_with fail
              have h6 := h5.next (Below.refl _ W5).drew
              obtain ⟨D, hown, hsays⟩ := h6.mp
              go_still_tail 9, (by kernel_rfl)
              change wpList _ _ _ _ _ W5.drew
              refine wpList_mapUpdate_own _ rfl _ _ _ 54 rfl 9 41 sure_law Tryd.underlying54 sureR gm q2 D rfl hown (by unfold maxLen; omega) _ _ _ rfl rfl (Go.WideMaps.keyOf_string_mk Tryd.underlying9 (by unfold maxLen; omega)) _ [] (sureR_mk (fb.extract 0 sn)) ?_
              intro W8 hown2 hgr2
              have h8 := h6.putm n5m hzm hgr2 ⟨_, hown2, says_put hown.isMap hsays fn (fb.extract 0 sn)⟩
              clear t1 t2 t3 t4 e0 e1 e2 f2 l2 hlk hfd
              go_wp2
              go_roundw
              case rel => exact ⟨j + 1, q2 + 1, by omega, by go_num, by omega, by rw [HRS.out, HSURE.out]; exact h8⟩
              case measure => simp [intOf]; omega
            · obtain rfl : j = m3 := by omega
              have hall : remember τ (fo.take j) = remember τ fo := by rw [List.take_of_length_le (by have := HL3.out; omega)]
              rw [hall] at hs
              have HH2 := Lib.hid (holds_remember HPW.out HK.out)
              clear hall
              obtain ⟨ρ, hρ⟩ : ∃ ρ, remember τ fo = ρ := ⟨_, rfl⟩
              have hh2 := HH2.out
              rw [hρ] at hs hh2
              have HH3 := Lib.hid hh2
              clear HH2 hh2 hρ
              obtain ⟨D, hown, hsays⟩ := hs.mp
              have HSAYS := Lib.hid hsays
              clear hsays
              obtain ⟨r, hr⟩ : ∃ r, r = wr.heap.size := ⟨_, rfl⟩
              have hzr : w.heap.size ≤ r := by rw [hr]; exact hs.b.size
              go_wp2_with (at_range; refine wpList_range_own _ rfl _ 54 rfl 9 41 sure_law Tryd.underlying54 sureR gm q2 D rfl hown ?_; intro w0 hrg0 hg0 hs0)
              have hsr := hs.next (grown_below hg0 (Nat.le_refl _) (fun g e => by cases e))
              rw [← hr] at hrg0 ⊢
              clear hr hs hown hg0 hs0
              go_frame
              go_loopw [15] (fun _ wx => ∃ (lft : Lit → Bool) (cnt : Nat), wx.ranges Tryd.prog 9 sureR gm r q2 D lft cnt ∧ Su g5 gm fo capo lefto downo A3 j c3 ρ q2 (some ⟨bb, off, none⟩) l w wx) (fun _ wx => wx.rangeLeft gm r)
              case atStart => exact ⟨_, _, hrg0, hsr⟩
              case round =>
                obtain ⟨lft, cnt, hrg, ht⟩ := hrel
                clear hrg0 hsr
                have HT := Lib.hid ht
                clear ht
                go_wp2_with (at_next; refine wpList_next_ranges _ rfl _ rfl 9 sure_law sureR Value.string sureV (fun key kl h => Maps.keyOf_string_inv Tryd.underlying9 h) (fun v y h => sureR_inv h) gm r q2 D lft cnt rfl hrg ?_ ?_)
                · intro _ _
                  go_wp2
                  go_roundw
                  case rel => exact ⟨k + 1, q2, fo, capo, lefto, downo, A3, j, c3, ρ, by omega, by go_num, HFZ.out, HL3.out, hm3, HH3.out, by omega, HT.out⟩
                  case measure => simp [intOf]; omega
                · intro x cv kl y1 y2 w1 cnt1 hkey hlx hv hat hrg1 hclt hg1 hs1 hen
                  have h1 := HT.out.iter hrg hg1 hzr
                  have hcv : ρ x = cv := by
                    obtain rfl := sure_key hkey
                    rw [sureR_mk] at hv
                    injection hv with hv
                    injection hv with hv _
                    have e1 := HSAYS.out x
                    rw [hat, ← hv] at e1
                    exact (sure_bytes e1).symm
                  obtain ⟨gn, gb, gs, th, hget⟩ := getRes_of fo x
                  have hth : 0 < cv.size → th = true := by
                    intro hp
                    rcases hget with ⟨h, _⟩ | ⟨_, h, _⟩
                    · exact h
                    · have := HH3.out.2 x (fun f hf e => by
                        have := List.find?_eq_none.1 h f hf
                        exact this (by rw [e]; exact eqS_self _))
                      rw [hcv] at this
                      rw [this] at hp
                      exact absurd hp (by decide)
                  have HGET := Lib.hid hget
                  have HR1 := Lib.hid hrg1
                  have HRG := Lib.hid hrg
                  clear hget hrg1 hrg hkey hlx hv hat hg1 hcv hs1
                  rw [show sureV cv = Value.agg #[.string { data := #[] }, .string cv, .int .i64 0] from rfl] at hen ⊢
                  obtain ⟨d0, d1, d2, d3, f1⟩ := h1.x.cells4
                  have l1 := h1.x.lt
                  go_wp2_with fail
                  obtain ⟨w2, hw2⟩ : ∃ w2, w2 = w1.alloc (.cells #[.string { data := #[] }, .string cv, .int .i64 0] 41) := ⟨_, rfl⟩
                  obtain ⟨g16, hg16⟩ : ∃ g16, g16 = w1.heap.size := ⟨_, rfl⟩
                  have hbz := bel1 w1 #[.string { data := #[] }, .string cv, .int .i64 0] 41
                  have h2 := h1.next hbz
                  have s2 := new1 w1 #[.string { data := #[] }, .string cv, .int .i64 0] 41
                  have hr2 := HR1.out.kept (below_grown hbz) (by simp) (by simp)
                  rw [← hw2] at h2 s2 hr2 ⊢
                  rw [← hg16] at s2 ⊢
                  clear hw2 hg16 hbz h1 hen
                  clear d0 d1 d2 d3 f1 l1
                  obtain ⟨d0, d1, d2, d3, f1⟩ := h2.x.cells4
                  have l1 := h2.x.lt
                  refine (get_any A3 j c3 w2.heap.size fo capo lefto downo x gn gb gs th _ HGET.out HL3.out h2.sx (Nat.le_refl _) (by omega)).mono ?_
                  rintro e w3 ⟨rfl, hx⟩
                  have h3 := h2.next hx
                  have s3 := s2.below hx s2.lt
                  have hr3 := hr2.kept (below_grown hx) (by simp) (by simp)
                  have h4 := h3.next (bel1 w3 #[.string gn, .string gb, .int .i64 gs] 41)
                  have hr4 := hr3.kept (below_grown (bel1 w3 #[.string gn, .string gb, .int .i64 gs] 41)) (by simp) (by simp)
                  have HR4 := Lib.hid hr4
                  clear hx h2 s2 hr2 hr3 hr4 h3
                  clear d0 d1 d2 d3 f1 l1
                  obtain ⟨e0, e1, e2, f2⟩ := s3.cells3
                  have l2 := s3.lt
                  by_cases hcz : 0 < cv.size
                  · obtain rfl := hth hcz
                    obtain ⟨z1, z2⟩ := full_ways hcz
                    go_wp2
                    go_roundw
                    case rel => exact ⟨_, cnt1, HR4.out, h4⟩
                    case measure => rw [HR4.out.left_eq, HRG.out.left_eq]; omega
                  · obtain rfl := eq_none.2 (show cv.size = 0 by omega)
                    have z1 := bare_toList
                    unfold none_ at *
                    go_wp2
                    go_roundw
                    case rel => exact ⟨_, cnt1, HR4.out, h4⟩
                    case measure => rw [HR4.out.left_eq, HRG.out.left_eq]; omega
    · have hke : k = n := by omega
      subst hke
      go_wp2_with fail
      refine (wakes_any _ (HG.out.next h5.b)).mono ?_
      rintro e WX ⟨rfl, hx⟩
      have hbx := h5.b.trans (hx.mono h5.b.size)
      go_wp2
      go_ret
      exact ⟨rfl, hbx⟩
theorem sure_walk (most : Int) (S : Option Addr) (n c : Nat) (l : List AcM) (w : World) (hn : l.length = n) (hs : Script w w.heap.size S l) (hmax : n ≤ 9223372036854775807) (hsz : ∀ x ∈ l, AcFits x) (hG : Glob w) :
    Calls Tryd.prog 5 #[.int .i64 most, .slice S n c] w fun e w' => e = .returned (.bool true) ∧ Below w.heap.size w w' := by
  cases hgr : greatA l with
  | true => exact sure_great most S n c l w hn hs hmax hsz hG hgr
  | false =>
    by_cases h0 : most < 0
    · exact sure_low most S n c l w hn hs hmax hsz hG hgr h0
    by_cases h1 : 65536 < most
    · exact sure_high most S n c l w hn hs hmax hsz hG hgr h1
    · exact sure_main most S n c l w hn hs hmax hsz hG hgr (by omega) (by omega)
end Go.Proofs.YtbglpmjfajmkdaaDoor
