/-
  The law DiskFull: its walk where the disk may be. Conditions: those that the theorem names.
-/
import Derived.Test.YtbglpmjfajmkdaaDoorDskFullBa
namespace Go.Proofs.YtbglpmjfajmkdaaDoor
open Go.RowKit DP

set_option maxRecDepth 100000 in
set_option maxHeartbeats 4000000 in
theorem full_room (A : Option Addr) (n c : Nat) (fs : List Fl) (cap left : Int) (down : Bool) (name b : ByteArray) (w : World) (hn : fs.length = n) (hs : Seen w w.heap.size A (fcells fs)) (hmax : n ≤ 9223372036854775807) (hsz : ∀ f ∈ fs, f.b.size ≤ 9223372036854775807 ∧ f.n.size ≤ 9223372036854775807) (hnm : name.size ≤ 9223372036854775807) (hbm : b.size ≤ 9223372036854775807) (hG : Glob w) (hgr : great ⟨fs, cap, left, down⟩ = false) (hc : check ⟨fs, cap, left, down⟩ = true) (hd : down = false) (hl : left < 0) (hlb : -9223372036854775808 ≤ left) (hok : okName name = true) (hb0 : 0 < b.size) (hb1 : b.size ≤ 131072) (fn fb : ByteArray) (s : Int) (th : Bool) (hg : GetRes fs name fn fb s th) (fs' : List Fl) (cap' left' r : Int) (hr : does ⟨fs, cap, left, false⟩ ⟨0, name, b, 0⟩ = (⟨fs', cap', left', false⟩, r)) (hr2 : r = 31 ∨ r = 3) (hful : cap < (used fs : Int) + b.size) (hfs : fs' = []) :
    Calls Tryd.prog 8 #[.agg #[.slice A n c, .int .i64 cap, .int .i64 left, .bool down], .string name, .string b] w fun e w' => e = .returned (.bool true) ∧ Below w.heap.size w w' := by
  have _u1 := hnm
  have _u2 := hbm
  clear _u1 _u2
  have HNM := Lib.hid hok
  have HGT := Lib.hid hg
  have HDO := Lib.hid hr
  clear hok hg hr
  have HR2 := Lib.hid hr2
  have HFL := Lib.hid hful
  clear hr2 hful
  have HGR := Lib.hid hgr
  clear hgr
  have hsm : Small fs := great_small HGR.out
  have HC : Hid (code (check ⟨fs, cap, left, down⟩) = 0) := by show _ = _; rw [hc]; rfl
  clear hc
  have t1 : decide (0 ≤ left) = false := bool_dec _ (by omega)
  subst hd
  obtain ⟨q1, q2⟩ := full_ways hb0
  have t2 : ((b.size : Int) == 0) = false := by rw [beq_eq_false_iff_ne]; omega
  have HN := Lib.hid hn
  have HG := Lib.hid hG
  clear hn hG
  go_enter Tryd.func8, Tryd.ntmps8
  go_wp2_with fail
  obtain ⟨W0, hW0⟩ : ∃ W0, W0 = w.alloc (.cells #[.slice A n c, .int .i64 cap, .int .i64 left, .bool false] 24) := ⟨_, rfl⟩
  have v0 : Var W0 w.heap.size 24 #[.slice A n c, .int .i64 cap, .int .i64 left, .bool false] := by rw [hW0]; exact new1 w _ _
  have hb0 : Below w.heap.size w W0 := by rw [hW0]; exact bel1 w _ _
  have hs0 := hs.below hb0
  have hz0 := hb0.size
  have hl0 := v0.lt
  rw [← hW0]
  clear hW0
  obtain ⟨d0, d1, d2, d3, f1⟩ := v0.cells4
  refine (great_any A n c w.heap.size fs cap left false false _ HN.out HGR.out hs0 hb0.size hmax hsz).mono ?_
  rintro e W1 ⟨rfl, hx⟩
  have v1 := v0.below hx v0.lt
  have hb1 := hb0.trans (hx.mono hb0.size)
  have hs1 := hs0.below (hx.mono hb0.size)
  have hz1 := hb1.size
  have hl1 := v1.lt
  clear hx d0 d1 d2 d3 f1 v0 hb0 hs0 hz0 hl0
  obtain ⟨d0, d1, d2, d3, f1⟩ := v1.cells4
  go_wp2_with fail
  refine (check_any A n c w.heap.size fs cap left false 0 _ HN.out HC.out hs1 hb1.size hsm).mono ?_
  rintro e W2 ⟨rfl, hx⟩
  have v2 := v1.below hx v1.lt
  have hb2 := hb1.trans (hx.mono hb1.size)
  have hs2 := hs1.below (hx.mono hb1.size)
  have hz2 := hb2.size
  have hl2 := v2.lt
  clear hx d0 d1 d2 d3 f1 v1 hb1 hs1 hz1 hl1
  obtain ⟨d0, d1, d2, d3, f1⟩ := v2.cells4
  go_wp2_with fail
  refine (name_any name true _ HNM.out hnm).mono ?_
  rintro e W3 ⟨rfl, hx⟩
  have v3 := v2.below hx v2.lt
  have hb3 := hb2.trans (hx.mono hb2.size)
  have hs3 := hs2.below (hx.mono hb2.size)
  have hz3 := hb3.size
  have hl3 := v3.lt
  clear hx d0 d1 d2 d3 f1 v2 hb2 hs2 hz2 hl2
  obtain ⟨d0, d1, d2, d3, f1⟩ := v3.cells4
  go_wp2_with fail
  refine (get_any A n c w.heap.size fs cap left false name fn fb s th _ HGT.out HN.out hs3 hb3.size (by have := HN.out; have := hsm.1; omega)).mono ?_
  rintro e W4 ⟨rfl, hx⟩
  have v4 := v3.below hx v3.lt
  have hb4 := hb3.trans (hx.mono hb3.size)
  have hs4 := hs3.below (hx.mono hb3.size)
  clear hx d0 d1 d2 d3 f1 v3 hb3 hs3 hz3 hl3
  go_wp2_with fail
  obtain ⟨W5, hW5⟩ : ∃ W5, W5 = W4.alloc (.cells #[.string fn, .string fb, .int .i64 s] 41) := ⟨_, rfl⟩
  obtain ⟨g7, hg7⟩ : ∃ g7, g7 = W4.heap.size := ⟨_, rfl⟩
  have v5 : Var W5 w.heap.size 24 #[.slice A n c, .int .i64 cap, .int .i64 left, .bool false] := by rw [hW5]; exact v4.alloc _
  have u5 : Var W5 g7 41 #[.string fn, .string fb, .int .i64 s] := by rw [hW5, hg7]; exact new1 W4 _ _
  have hb5 : Below w.heap.size w W5 := by rw [hW5]; exact hb4.alloc hb4.size _
  have hs5 : Seen W5 w.heap.size A (fcells fs) := by rw [hW5]; exact hs4.below (bel1 W4 _ _ |>.mono hb4.size)
  have hG5 : Glob W5 := HG.out.next hb5
  rw [← hW5, ← hg7]
  clear hW5 hg7 v4 hb4 hs4
  obtain ⟨d0, d1, d2, d3, f1⟩ := v5.cells4
  have hkk : ∀ w5, Below W5.heap.size W5.drew w5 → Below W5.heap.size W5 w5 ∧ Var w5 w.heap.size 24 #[.slice A n c, .int .i64 cap, .int .i64 left, .bool false] ∧ Var w5 g7 41 #[.string fn, .string fb, .int .i64 s] ∧ Seen w5 w.heap.size A (fcells fs) ∧ Glob w5 ∧ w.heap.size ≤ w5.heap.size ∧ Below w.heap.size w w5 := fun w5 hb =>
    have hb' : Below W5.heap.size W5 w5 := (Below.refl _ W5).drew.trans hb
    ⟨hb', v5.below hb' v5.lt, u5.below hb' u5.lt, hs5.below (hb'.mono hb5.size), hG5.next hb', Nat.le_trans hb5.size hb'.size, hb5.trans (hb'.mono hb5.size)⟩
  have HKK := Lib.hid hkk
  clear hkk
  have hdo : ∀ w5, Glob w5 → Seen w5 w.heap.size A (fcells fs) → w.heap.size ≤ w5.heap.size → Calls Tryd.prog 12 #[.agg #[.slice A n c, .int .i64 cap, .int .i64 left, .bool false], .agg #[.int .i8 0, .string name, .string b, .int .i64 0]] w5 (DiskRes fs' cap' left' false r w5) := fun w5 h1 h2 h3 =>
    do_any A n c w.heap.size fs fs' cap left cap' left' false false 0 name b 0 r w5 h1 HN.out h2 h3 hsm hnm (by omega) (by omega) hlb HDO.out
  have HD := Lib.hid hdo
  clear hdo
  have hl5 := v5.lt
  have hlu5 := u5.lt
  have hlw5 := hb5.size
  go_upto_region 4 with fail
  go_cut [9, 10] (fun s9 s10 wx => s10 = .int .i64 r ∧ ∃ g9, s9 = .pointer (some ⟨g9, 0, none⟩) ∧ FullRel fs' cap' left' #[.slice A n c, .int .i64 cap, .int .i64 left, .bool false] #[.string fn, .string fb, .int .i64 s] w.heap.size g7 g9 w wx)
  case first =>
    go_region_with (first
      | (go_at_call 32; refine (put_any name b W5.drew).mono ?_; rintro e w5 ⟨rfl, hb5a⟩; obtain ⟨hb5', p5, u5', hs5', hG5', hz5', hb5w⟩ := HKK.out w5 hb5a; have hlp5 := p5.lt; have hlu5' := u5'.lt; obtain ⟨j0, j1, j2, j3, _⟩ := p5.cells4)
      | (go_at_call 32; refine (put_any name b _).mono ?_; rintro e w5 ⟨rfl, hb5a⟩; have x9 := Var.below (new1 W5.drew #[.slice none 0 0, .int .i64 0, .int .i64 0, .bool false] 24) hb5a (by simp); obtain ⟨hb5', p5, u5', hs5', hG5', hz5', hb5w⟩ := HKK.out w5 ((bel1 W5.drew _ _).trans (hb5a.mono (by simp))); have hlp5 := p5.lt; have hlu5' := u5'.lt; obtain ⟨j0, j1, j2, j3, _⟩ := p5.cells4; have x9' : Var w5 W5.heap.size 24 #[.slice none 0 0, .int .i64 0, .int .i64 0, .bool false] := x9)
      | (go_at_call 12; refine (HD.out w5 hG5' hs5' hz5').mono ?_; rintro e w6 ⟨A6, m6, c6, rfl, hl6, hs6, hm6, hb6⟩; have HL6 := Lib.hid hl6; clear hl6; have p6 := Var.below p5 hb6 p5.lt; have u6 := Var.below u5' hb6 u5'.lt; have hb6w := hb5w.trans (hb6.mono hz5'); first | (have u9 := Var.below x9' hb6 x9'.lt; obtain ⟨k0, k1, k2, k3, kf⟩ := u9.cells4) | skip)
      | (go_at_call 12; have hba := bel1 w5 #[.slice none 0 0, .int .i64 0, .int .i64 0, .bool false] 24; refine (HD.out (w5.alloc (.cells #[.slice none 0 0, .int .i64 0, .int .i64 0, .bool false] 24)) (hG5'.next hba) (hs5'.below (hba.mono hz5')) (Nat.le_trans hz5' hba.size)).mono ?_; rintro e w6 ⟨A6, m6, c6, rfl, hl6, hs6, hm6, hb6⟩; have HL6 := Lib.hid hl6; clear hl6; have p6 := Var.below (p5.alloc (.cells #[.slice none 0 0, .int .i64 0, .int .i64 0, .bool false] 24)) hb6 (by have := p5.lt; simp; omega); have u6 := Var.below (u5'.alloc (.cells #[.slice none 0 0, .int .i64 0, .int .i64 0, .bool false] 24)) hb6 (by have := u5'.lt; simp; omega); have hb6w := (hb5w.trans (hba.mono hz5')).trans (hb6.mono (Nat.le_trans hz5' hba.size)); have u9 := Var.below (new1 w5 #[.slice none 0 0, .int .i64 0, .int .i64 0, .bool false] 24) hb6 (by simp); obtain ⟨k0, k1, k2, k3, kf⟩ := u9.cells4))
    all_goals
      go_wp2_with fail
      go_meet
      first
        | (have hu9 := u9
           refine ⟨rfl, _, rfl, ?_⟩
           with_reducible refine full_set HL6.out hs6 hu9 disk_noText p6 u6 ?_ ?_ ?_ hb6w
           all_goals omega)
        | (refine ⟨rfl, _, rfl, ?_⟩
           with_reducible exact full_new HL6.out hs6 p6 u6 hb6w)
  case rest =>
    obtain ⟨rfl, g9, rfl, A6, m6, c6, hl6, hs6, v6, p6, u6, hb6⟩ := hcut
    have HL6 := Lib.hid hl6
    clear hl6 hlu5 hlw5 HKK v5 u5 hb5 hs5 hG5 d0 d1 d2 d3 f1
    have hG6 : Glob wc := HG.out.next hb6
    obtain ⟨d0, d1, d2, d3, f1⟩ := p6.cells4
    obtain ⟨e0, e1, e2, e3, f2⟩ := v6.cells4
    obtain ⟨i0, i1, i2, f3⟩ := u6.cells3
    have hgl := p6.lt
    have hgl9 := v6.lt
    have hgl7 := u6.lt
    obtain ⟨u, hu⟩ : ∃ u, used fs = u := ⟨_, rfl⟩
    have HU := Lib.hid hu
    have hub : u ≤ 40000000 := by have := used_bound hsm fs.length; rw [List.take_length] at this; omega
    obtain ⟨v, hv⟩ : ∃ v, v = u + b.size := ⟨_, rfl⟩
    have hw : IntKind.i64.wrap ((u : Int) + (b.size : Int)) = (v : Int) := by rw [IntWalk.i64_in _ (by omega)]; omega
    have hsw := hs.below hb6
    have hx0 := fun (x : After wc) => (Var.cells4 (p6.below x.below p6.lt)).1
    have hx1 := fun (x : After wc) => (Var.cells4 (p6.below x.below p6.lt)).2.1
    have hx2 := fun (x : After wc) => (Var.cells4 (p6.below x.below p6.lt)).2.2.1
    have hx3 := fun (x : After wc) => (Var.cells4 (p6.below x.below p6.lt)).2.2.2.1
    have hy0 := fun (x : After wc) => (Var.cells3 (u6.below x.below u6.lt)).1
    have hy1 := fun (x : After wc) => (Var.cells3 (u6.below x.below u6.lt)).2.1
    have hy2 := fun (x : After wc) => (Var.cells3 (u6.below x.below u6.lt)).2.2.1
    have t5 : decide (cap < (v : Int)) = true := decide_eq_true (by have := HFL.out; rw [hu] at this; omega)
    have t5b : decide (cap < (u : Int) + (b.size : Int)) = true := decide_eq_true (by have := HFL.out; rw [hu] at this; omega)
    clear hu
    go_wp2_with fail
    refine wp_region_after (by kernel_rfl) (by kernel_rfl) ?_
    repeat (go_big_quiet_step ((go_at_call 25; exact Calls.after (used_any A n c w.heap.size fs cap left false u _ HN.out HU.out (hsw.below ((After.below _).mono hb6.size)) (Nat.le_trans hb6.size (After.below _).size) hsm))))
    refine wpQuiet_nil ?_
    rintro _ ⟨x, rfl⟩
    obtain ⟨w7, hw7⟩ : ∃ w7, w7 = x.val := ⟨_, rfl⟩
    have hx7 : Below wc.heap.size wc w7 := by rw [hw7]; exact x.below
    rw [← hw7]
    clear hw7 hx0 hx1 hx2 hx3 hy0 hy1 hy2 hw d0 d1 d2 d3 f1 e0 e1 e2 e3 f2 i0 i1 i2 f3
    have hb7 := hb6.trans (hx7.mono hb6.size)
    have v7 := v6.below hx7 v6.lt
    have p7 := p6.below hx7 p6.lt
    have u7 := u6.below hx7 u6.lt
    have hs7 := (hs6.below hx7).up hx7.size
    have hgl' := p7.lt
    have hgl9' := v7.lt
    have hgl7' := u7.lt
    clear hx7 v6 p6 u6 hs6 hb6 hG6 hgl hgl9 hgl7
    obtain ⟨d0, d1, d2, d3, f1⟩ := p7.cells4
    obtain ⟨e0, e1, e2, e3, f2⟩ := v7.cells4
    obtain ⟨i0, i1, i2, f3⟩ := u7.cells3
    have m0 : m6 = 0 := by rw [← HL6.out, hfs]; rfl
    subst m0
    rcases HR2.out with rfl | rfl
    all_goals
      go_wp2_with fail
      refine (wakes_any _ (HG.out.next hb7)).mono ?_
      rintro e w8 ⟨rfl, hx8⟩
      have hb8 := hb7.trans (hx8.mono hb7.size)
      go_wp2
      go_ret
      exact ⟨rfl, hb8⟩

end Go.Proofs.YtbglpmjfajmkdaaDoor
