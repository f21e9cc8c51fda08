/-
  The law DiskTells: its main way. Conditions: those that each theorem names.
-/
import Derived.Test.YtbglpmjfajmkdaaDoorDskTellsA
namespace Go.Proofs.YtbglpmjfajmkdaaDoor
open Go.RowKit DP

/-- What Do, Arm, Crash and New hand back is no longer than 100 files. -/
theorem does_len {d : Dk} {x : Wr} {d' : Dk} {r : Int} (h : does d x = (d', r)) : d'.fs.length ≤ 100 := by
  unfold does at h
  by_cases h1 : check d = false ∨ isOp x = false
  · rw [if_pos h1] at h; injection h with h _; rw [← h]; simp [noDisk]
  rw [if_neg h1] at h
  have hc : check d = true := by
    cases hh : check d
    · exact absurd (.inl hh) h1
    · rfl
  have h64 := (check_parts hc).1
  by_cases h2 : d.down = true
  · rw [if_pos h2] at h; injection h with h _; rw [← h]; simp [noDisk]
  rw [if_neg h2] at h
  by_cases h3 : d.left = 0
  · rw [if_pos h3] at h; injection h with h _; rw [← h]; simp only; omega
  rw [if_neg h3] at h
  unfold done at h
  simp only at h
  by_cases h4 : get d.fs x.file = none ∧ x.b.size = 0
  · rw [if_pos h4] at h; injection h with h _; rw [← h]; simp [noDisk]
  rw [if_neg h4] at h
  split at h
  · injection h with h _; rw [← h]; simp [noDisk]
  split at h
  · injection h with h _; rw [← h]; simp [noDisk]
  split at h
  · injection h with h _; rw [← h]; simp [noDisk]
  · injection h with h _; rw [← h]; simp only; omega
theorem arm_len {d : Dk} {k : Int} {d' : Dk} {r : Int} (h : arm d k = (d', r)) : d'.fs.length ≤ 100 := by
  unfold arm at h
  split at h
  · injection h with h _; rw [← h]; simp [noDisk]
  · rename_i hc
    injection h with h _; rw [← h]
    have hc' : check d = true := by simpa using hc
    have := (check_parts hc').1
    simp only; omega
theorem crash_len {d : Dk} {ks : List Int} {d' : Dk} {r : Int} (h : crash d ks = (d', r)) : d'.fs.length ≤ 100 := by
  unfold crash at h
  split at h
  · injection h with h _; rw [← h]; simp [noDisk]
  · rename_i hc
    injection h with h _; rw [← h]
    have hc' : check d = true := by simpa using hc
    have h1 := (check_parts hc').1
    have h2 := List.length_filter_le (fun f : Fl => decide (0 < f.b.size)) (lefts d.fs ks)
    rw [lefts_length] at h2
    simp only; omega
theorem new_len {k : Int} {d' : Dk} {r : Int} (h : new k = (d', r)) : d'.fs.length ≤ 100 := by
  unfold new at h
  split at h
  · injection h with h _; rw [← h]; simp [noDisk]
  · injection h with h _; rw [← h]; simp
set_option maxRecDepth 100000 in
set_option maxHeartbeats 8000000 in
theorem tells_main (A : Option Addr) (n c : Nat) (fs : List Fl) (cap left : Int) (down : Bool) (O : Option Addr) (no co : Nat) (gs : List Fl) (capo lefto : Int) (downo : Bool) (vo : Int) (vf vb : ByteArray) (vn : Int) (k : Int) (K : Option Addr) (kn kc : Nat) (keep : List Int) (name : ByteArray) (w : World) (hn : fs.length = n) (hnc : n ≤ c) (hs : Seen w w.heap.size A (fcells fs)) (hmax : n ≤ 9223372036854775807) (hsz : ∀ f ∈ fs, f.b.size ≤ 9223372036854775807 ∧ f.n.size ≤ 9223372036854775807) (hlw : -9223372036854775808 ≤ left ∧ left ≤ 9223372036854775807) (hno : gs.length = no) (hso : Seen w w.heap.size O (fcells gs)) (hmo : no ≤ 9223372036854775807) (hzo : ∀ f ∈ gs, f.b.size ≤ 9223372036854775807 ∧ f.n.size ≤ 9223372036854775807) (hvs : vb.size ≤ 9223372036854775807 ∧ vf.size ≤ 9223372036854775807) (hkn : keep.length = kn) (hkm : kn ≤ 9223372036854775807) (hks : Seen w w.heap.size K (keep.map (Value.int .i64))) (hkw : ∀ x ∈ keep, -9223372036854775808 ≤ x ∧ x ≤ 9223372036854775807) (hnm : name.size ≤ 9223372036854775807) (hG : Glob w)
    (hgr : great ⟨fs, cap, left, down⟩ = false) (hgo : great ⟨gs, capo, lefto, downo⟩ = false) (hgw : greatW [⟨vo, vf, vb, vn⟩] = false) (hk2 : kn ≤ 200) (hn1 : name.size ≤ 100) : Calls Tryd.prog 3 #[.agg #[.slice A n c, .int .i64 cap, .int .i64 left, .bool down], .agg #[.slice O no co, .int .i64 capo, .int .i64 lefto, .bool downo], .agg #[.int .i8 vo, .string vf, .string vb, .int .i64 vn], .int .i64 k, .slice K kn kc, .string name] w fun e w' => e = .returned (.bool true) ∧ Below w.heap.size w w' := by
  have hsm := tells_small _ hgr
  have hsmo := tells_small _ hgo
  have hvb : vb.size ≤ 4096 := ((greatW_parts hgw).2 _ (List.mem_singleton.2 rfl)).1
  have HGR := Lib.hid hgr
  have HGO := Lib.hid hgo
  have HGW := Lib.hid hgw
  have HKN := Lib.hid hkn
  have HN := Lib.hid hn
  have HNO := Lib.hid hno
  have HG := Lib.hid hG
  have HSZ : Hid (∀ x ∈ [(⟨vo, vf, vb, vn⟩ : Wr)], x.b.size ≤ 9223372036854775807 ∧ x.file.size ≤ 9223372036854775807) := by
    intro x hx
    obtain rfl := List.mem_singleton.1 hx
    exact hvs
  have _u := hkw
  have _v := hnc
  have _x := hlw
  have _y := hkn
  clear _u _v _x _y hn hno hG
  clear hgr hgo hgw hkn
  obtain ⟨fsa, capa, lefta, downa, ra, hra⟩ : ∃ fs' cap' left' down' r', does ⟨fs, cap, left, down⟩ ⟨vo, vf, vb, vn⟩ = (⟨fs', cap', left', down'⟩, r') := ⟨_, _, _, _, _, rfl⟩
  have HRa := Lib.hid hra
  have HLa := Lib.hid (does_len hra)
  obtain ⟨fsb, capb, leftb, downb, rb, hrb⟩ : ∃ fs' cap' left' down' r', arm ⟨fs, cap, left, down⟩ k = (⟨fs', cap', left', down'⟩, r') := ⟨_, _, _, _, _, rfl⟩
  have HRb := Lib.hid hrb
  have HLb := Lib.hid (arm_len hrb)
  obtain ⟨fsc, capc, leftc, downc, rc, hrc⟩ : ∃ fs' cap' left' down' r', crash ⟨fs, cap, left, down⟩ keep = (⟨fs', cap', left', down'⟩, r') := ⟨_, _, _, _, _, rfl⟩
  have HRc := Lib.hid hrc
  have HLc := Lib.hid (crash_len hrc)
  obtain ⟨fsd, capd, leftd, downd, rd, hrd⟩ : ∃ fs' cap' left' down' r', new k = (⟨fs', cap', left', down'⟩, r') := ⟨_, _, _, _, _, rfl⟩
  have HRd := Lib.hid hrd
  have HLd := Lib.hid (new_len hrd)
  obtain ⟨fn, fb, s, th, hg⟩ := getRes_of fs name
  have HGET := Lib.hid hg
  obtain ⟨rk, hrk⟩ : ∃ rk, code (check ⟨fs, cap, left, down⟩) = rk := ⟨_, rfl⟩
  have HRK := Lib.hid hrk
  obtain ⟨us, hus⟩ : ∃ us, used fs = us := ⟨_, rfl⟩
  have HUS := Lib.hid hus
  obtain ⟨bs, hbs⟩ : ∃ bs, same ⟨fs, cap, left, down⟩ ⟨gs, capo, lefto, downo⟩ = bs := ⟨_, rfl⟩
  have HBS := Lib.hid hbs
  obtain ⟨bn, hbn⟩ : ∃ bn, okName name = bn := ⟨_, rfl⟩
  have HBN := Lib.hid hbn
  clear hra hrb hrc hrd hg hrk hus hbs hbn
  have t1 : decide ((200 : Int) < (kn : Int)) = false := bool_dec _ (by omega)
  have t2 : decide ((100 : Int) < (name.size : Int)) = false := bool_dec _ (by omega)
  go_enter Tryd.func3, Tryd.ntmps3
  go_wp2_with fail
  obtain ⟨W0, hW0⟩ : ∃ W0, W0 = ((w.alloc (.cells #[.slice A n c, .int .i64 cap, .int .i64 left, .bool down] 24)).alloc (.cells #[.slice O no co, .int .i64 capo, .int .i64 lefto, .bool downo] 24)).alloc (.cells #[.int .i8 vo, .string vf, .string vb, .int .i64 vn] 27) := ⟨_, rfl⟩
  have h0 : Tl A n c fs cap left down O no co gs capo lefto downo vo vf vb vn K keep w W0 := by rw [hW0]; exact Tl.start hs hso hks
  rw [← hW0]
  clear hW0
  refine (great_any A n c w.heap.size fs cap left down false _ HN.out HGR.out h0.s h0.b.size hmax hsz).mono ?_
  rintro e W1 ⟨rfl, hx⟩
  have h1 := h0.next hx
  clear hx h0
  obtain ⟨d0, d1, d2, d3, f1⟩ := h1.p.cells4
  obtain ⟨x0, x1, x2, x3, f2⟩ := h1.q.cells4
  obtain ⟨u0, u1, u2, u3, f3⟩ := h1.u.cells4
  have l1 := h1.p.lt
  have l2 := h1.q.lt
  have l3 := h1.u.lt
  go_wp2_with fail
  clear d0 d1 d2 d3 x0 x1 x2 x3 u0 u1 u2 u3 f1 f2 f3 l1 l2 l3
  refine (great_any O no co w.heap.size gs capo lefto downo false _ HNO.out HGO.out h1.so h1.b.size hmo hzo).mono ?_
  rintro e W2 ⟨rfl, hx⟩
  have h2 := h1.next hx
  clear hx h1
  obtain ⟨d0, d1, d2, d3, f1⟩ := h2.p.cells4
  obtain ⟨x0, x1, x2, x3, f2⟩ := h2.q.cells4
  obtain ⟨u0, u1, u2, u3, f3⟩ := h2.u.cells4
  have l1 := h2.p.lt
  have l2 := h2.q.lt
  have l3 := h2.u.lt
  go_wp2_with fail
  clear d0 d1 d2 d3 x0 x1 x2 x3 u0 u1 u2 u3 f1 f2 f3 l1 l2 l3
  have hsw := one_cells vo vf vb vn W2 27
  have hbw := bel1 W2 #[.int .i8 vo, .string vf, .string vb, .int .i64 vn] 27
  refine (greatW_any (some ⟨W2.heap.size, 0, none⟩) 1 1 (W2.heap.size + 1) [⟨vo, vf, vb, vn⟩] false _ rfl HGW.out (one_cells vo vf vb vn W2 _) (by simp) (by omega) HSZ.out).mono ?_
  rintro e W3 ⟨rfl, hx⟩
  have h3 := (h2.next (bel1 W2 _ _)).next hx
  clear hx h2 hsw hbw
  obtain ⟨d0, d1, d2, d3, f1⟩ := h3.p.cells4
  obtain ⟨x0, x1, x2, x3, f2⟩ := h3.q.cells4
  obtain ⟨u0, u1, u2, u3, f3⟩ := h3.u.cells4
  have l1 := h3.p.lt
  have l2 := h3.q.lt
  have l3 := h3.u.lt
  go_wp2_with fail
  refine (do_any A n c w.heap.size fs fsa cap left capa lefta down downa vo vf vb vn ra _ (HG.out.next h3.b) HN.out h3.s h3.b.size hsm hvs.2 (by omega) hlw.2 hlw.1 HRa.out).mono ?_
  rintro e W4 ⟨A1, m1, c1, rfl, hl1, hs1, hm1, hx⟩
  have HL1 := Lib.hid hl1
  have h4 := h3.next hx
  clear hx h3 hl1 d0 d1 d2 d3 x0 x1 x2 x3 u0 u1 u2 u3 f1 f2 f3 l1 l2 l3
  obtain ⟨d0, d1, d2, d3, f1⟩ := h4.p.cells4
  obtain ⟨x0, x1, x2, x3, f2⟩ := h4.q.cells4
  obtain ⟨u0, u1, u2, u3, f3⟩ := h4.u.cells4
  have l1 := h4.p.lt
  have l2 := h4.q.lt
  have l3 := h4.u.lt
  go_wp2_with fail
  obtain ⟨W5, hW5⟩ : ∃ W5, W5 = W4.alloc (.cells #[.slice A1 m1 c1, .int .i64 capa, .int .i64 lefta, .bool downa] 24) := ⟨_, rfl⟩
  obtain ⟨g13, hg13⟩ : ∃ g13, g13 = W4.heap.size := ⟨_, rfl⟩
  have hb5 := bel1 W4 #[.slice A1 m1 c1, .int .i64 capa, .int .i64 lefta, .bool downa] 24
  have h5 := h4.next hb5
  have vx5 := new1 W4 #[.slice A1 m1 c1, .int .i64 capa, .int .i64 lefta, .bool downa] 24
  have sx5 := (hs1.below hb5).up hb5.size
  have hz13 : w.heap.size + 3 ≤ g13 := by rw [hg13]; exact h4.z
  rw [← hW5] at h5 vx5 sx5 ⊢
  rw [← hg13] at vx5 ⊢
  clear hW5 hg13 hb5 hs1 h4 d0 d1 d2 d3 x0 x1 x2 x3 u0 u1 u2 u3 f1 f2 f3 l1 l2 l3
  obtain ⟨d0, d1, d2, d3, f1⟩ := h5.p.cells4
  obtain ⟨x0, x1, x2, x3, f2⟩ := h5.q.cells4
  obtain ⟨u0, u1, u2, u3, f3⟩ := h5.u.cells4
  have l1 := h5.p.lt
  have l2 := h5.q.lt
  have l3 := h5.u.lt
  refine (ref_do_any A n c w.heap.size fs fsa cap left capa lefta down downa vo vf vb vn ra _ HN.out h5.s h5.b.size hsm hnc hvs.2 (by omega) hlw.2 HRa.out).mono ?_
  rintro e W6 ⟨A2, m2, c2, rfl, hl2, hs2, hm2, hx⟩
  have HL2 := Lib.hid hl2
  have h6 := h5.next hx
  have vx6 := vx5.below hx vx5.lt
  have sx6 := (sx5.below hx).up hx.size
  clear hx h5 vx5 sx5 hl2 d0 d1 d2 d3 x0 x1 x2 x3 u0 u1 u2 u3 f1 f2 f3 l1 l2 l3
  obtain ⟨d0, d1, d2, d3, f1⟩ := h6.p.cells4
  obtain ⟨x0, x1, x2, x3, f2⟩ := h6.q.cells4
  obtain ⟨u0, u1, u2, u3, f3⟩ := h6.u.cells4
  have l1 := h6.p.lt
  have l2 := h6.q.lt
  have l3 := h6.u.lt
  obtain ⟨i0, i1, i2, i3, f4⟩ := vx6.cells4
  have l4 := vx6.lt
  go_wp2_with fail
  obtain ⟨W7, hW7⟩ : ∃ W7, W7 = W6.alloc (.cells #[.slice A2 m2 c2, .int .i64 capa, .int .i64 lefta, .bool downa] 24) := ⟨_, rfl⟩
  obtain ⟨g15, hg15⟩ : ∃ g15, g15 = W6.heap.size := ⟨_, rfl⟩
  have hb7 := bel1 W6 #[.slice A2 m2 c2, .int .i64 capa, .int .i64 lefta, .bool downa] 24
  have h7 := h6.next hb7
  have vy7 := new1 W6 #[.slice A2 m2 c2, .int .i64 capa, .int .i64 lefta, .bool downa] 24
  have vx7 := vx6.below hb7 vx6.lt
  have sx7 := (sx6.below hb7).up hb7.size
  have sy7 := (hs2.below hb7).up hb7.size
  have hz15 : w.heap.size + 3 ≤ g15 := by rw [hg15]; exact h6.z
  have hne : g13 ≠ g15 := by rw [hg15]; have := vx6.lt; omega
  rw [← hW7] at h7 vy7 vx7 sx7 sy7 ⊢
  rw [← hg15] at vy7 ⊢
  clear hW7 hg15 hb7 hs2 h6 vx6 sx6 i0 i1 i2 i3 f4 l4 d0 d1 d2 d3 x0 x1 x2 x3 u0 u1 u2 u3 f1 f2 f3 l1 l2 l3
  obtain ⟨d0, d1, d2, d3, f1⟩ := h7.p.cells4
  obtain ⟨x0, x1, x2, x3, f2⟩ := h7.q.cells4
  obtain ⟨u0, u1, u2, u3, f3⟩ := h7.u.cells4
  have l1 := h7.p.lt
  have l2 := h7.q.lt
  have l3 := h7.u.lt
  obtain ⟨i0, i1, i2, i3, f4⟩ := vx7.cells4
  have l4 := vx7.lt
  obtain ⟨j0, j1, j2, j3, f5⟩ := vy7.cells4
  have l5 := vy7.lt
  refine (ref_same_any A1 A2 m1 m2 c1 c2 W7.heap.size fsa fsa capa capa lefta lefta downa downa true _ HL1.out HL2.out sx7 sy7 (Nat.le_refl _) (by rw [← HL1.out]; exact HLa.out) (by rw [← HL2.out]; exact HLa.out) (same_self_ _)).mono ?_
  rintro e W8 ⟨rfl, hx⟩
  have h8 := h7.next hx
  have vx8 := vx7.below hx vx7.lt
  have vy8 := vy7.below hx vy7.lt
  clear hx h7 vx7 vy7 sx7 sy7 d0 d1 d2 d3 x0 x1 x2 x3 u0 u1 u2 u3 f1 f2 f3 l1 l2 l3
  clear i0 i1 i2 i3 f4 l4 j0 j1 j2 j3 f5 l5
  obtain ⟨d0, d1, d2, d3, f1⟩ := h8.p.cells4
  obtain ⟨x0, x1, x2, x3, f2⟩ := h8.q.cells4
  obtain ⟨u0, u1, u2, u3, f3⟩ := h8.u.cells4
  have l1 := h8.p.lt
  have l2 := h8.q.lt
  have l3 := h8.u.lt
  obtain ⟨i0, i1, i2, i3, f4⟩ := vx8.cells4
  have l4 := vx8.lt
  obtain ⟨j0, j1, j2, j3, f5⟩ := vy8.cells4
  have l5 := vy8.lt
  have yr : (ra == ra) = true := by simp
  go_wp2_with fail
  clear yr
  refine (arm_any A n c w.heap.size fs fsb cap left k capb leftb down downb rb _ HN.out h8.s h8.b.size hsm HRb.out).mono ?_
  rintro e W9 ⟨A3, m3, c3, rfl, hl3, hs3, hm3, hx⟩
  have HL3 := Lib.hid hl3
  have h9 := h8.next hx
  have vx9 := vx8.below hx vx8.lt
  have vy9 := vy8.below hx vy8.lt
  clear hx h8 vx8 vy8 hl3 d0 d1 d2 d3 x0 x1 x2 x3 u0 u1 u2 u3 f1 f2 f3 l1 l2 l3
  clear i0 i1 i2 i3 f4 l4 j0 j1 j2 j3 f5 l5
  obtain ⟨d0, d1, d2, d3, f1⟩ := h9.p.cells4
  obtain ⟨x0, x1, x2, x3, f2⟩ := h9.q.cells4
  obtain ⟨u0, u1, u2, u3, f3⟩ := h9.u.cells4
  have l1 := h9.p.lt
  have l2 := h9.q.lt
  have l3 := h9.u.lt
  obtain ⟨i0, i1, i2, i3, f4⟩ := vx9.cells4
  have l4 := vx9.lt
  obtain ⟨j0, j1, j2, j3, f5⟩ := vy9.cells4
  have l5 := vy9.lt
  go_wp2_with fail
  obtain ⟨W10, hW⟩ : ∃ W10, W10 = (((W9.setCell ⟨g13, 0, none⟩ (.slice A3 m3 c3)).setCell ⟨g13, 1, none⟩ (.int .i64 capb)).setCell ⟨g13, 2, none⟩ (.int .i64 leftb)).setCell ⟨g13, 3, none⟩ (.bool downb) := ⟨_, rfl⟩
  have h10 := h9.set4 hz13 (.slice A3 m3 c3) (.int .i64 capb) (.int .i64 leftb) (.bool downb)
  have vx10 := set4_var (a := .slice A3 m3 c3) (b := .int .i64 capb) (c := .int .i64 leftb) (d := .bool downb) vx9
  have vy10 := set4_other (a := .slice A3 m3 c3) (b := .int .i64 capb) (c := .int .i64 leftb) (d := .bool downb) vy9 (Ne.symm hne)
  have sx10 := seen4 (a := .slice A3 m3 c3) (b := .int .i64 capb) (c := .int .i64 leftb) (d := .bool downb) hs3 vx9 disk_noText
  rw [← hW] at h10 vx10 vy10 sx10 ⊢
  have hz10 : W10.heap.size = W9.heap.size := by rw [hW]; simp
  rw [← hz10] at sx10
  clear hW hz10 h9 vx9 vy9 hs3 d0 d1 d2 d3 x0 x1 x2 x3 u0 u1 u2 u3 f1 f2 f3 l1 l2 l3
  clear i0 i1 i2 i3 f4 l4 j0 j1 j2 j3 f5 l5
  obtain ⟨d0, d1, d2, d3, f1⟩ := h10.p.cells4
  obtain ⟨x0, x1, x2, x3, f2⟩ := h10.q.cells4
  obtain ⟨u0, u1, u2, u3, f3⟩ := h10.u.cells4
  have l1 := h10.p.lt
  have l2 := h10.q.lt
  have l3 := h10.u.lt
  obtain ⟨i0, i1, i2, i3, f4⟩ := vx10.cells4
  have l4 := vx10.lt
  obtain ⟨j0, j1, j2, j3, f5⟩ := vy10.cells4
  have l5 := vy10.lt
  refine (ref_arm_any A n c w.heap.size fs fsb cap left k capb leftb down downb rb _ HN.out h10.s h10.b.size hsm hnc HRb.out).mono ?_
  rintro e W11 ⟨A4, m4, c4, rfl, hl4, hs4, hm4, hx⟩
  have HL4 := Lib.hid hl4
  have h11 := h10.next hx
  have vx11 := vx10.below hx vx10.lt
  have vy11 := vy10.below hx vy10.lt
  have sx11 := (sx10.below hx).up hx.size
  clear hx h10 vx10 vy10 sx10 hl4 d0 d1 d2 d3 x0 x1 x2 x3 u0 u1 u2 u3 f1 f2 f3 l1 l2 l3
  clear i0 i1 i2 i3 f4 l4 j0 j1 j2 j3 f5 l5
  obtain ⟨d0, d1, d2, d3, f1⟩ := h11.p.cells4
  obtain ⟨x0, x1, x2, x3, f2⟩ := h11.q.cells4
  obtain ⟨u0, u1, u2, u3, f3⟩ := h11.u.cells4
  have l1 := h11.p.lt
  have l2 := h11.q.lt
  have l3 := h11.u.lt
  obtain ⟨i0, i1, i2, i3, f4⟩ := vx11.cells4
  have l4 := vx11.lt
  obtain ⟨j0, j1, j2, j3, f5⟩ := vy11.cells4
  have l5 := vy11.lt
  go_wp2_with fail
  obtain ⟨W12, hW⟩ : ∃ W12, W12 = (((W11.setCell ⟨g15, 0, none⟩ (.slice A4 m4 c4)).setCell ⟨g15, 1, none⟩ (.int .i64 capb)).setCell ⟨g15, 2, none⟩ (.int .i64 leftb)).setCell ⟨g15, 3, none⟩ (.bool downb) := ⟨_, rfl⟩
  have h12 := h11.set4 hz15 (.slice A4 m4 c4) (.int .i64 capb) (.int .i64 leftb) (.bool downb)
  have vy12 := set4_var (a := .slice A4 m4 c4) (b := .int .i64 capb) (c := .int .i64 leftb) (d := .bool downb) vy11
  have vx12 := set4_other (a := .slice A4 m4 c4) (b := .int .i64 capb) (c := .int .i64 leftb) (d := .bool downb) vx11 hne
  have sx12 := seen4 (a := .slice A4 m4 c4) (b := .int .i64 capb) (c := .int .i64 leftb) (d := .bool downb) sx11 vy11 disk_noText
  have sy12 := seen4 (a := .slice A4 m4 c4) (b := .int .i64 capb) (c := .int .i64 leftb) (d := .bool downb) hs4 vy11 disk_noText
  rw [← hW] at h12 vx12 vy12 sx12 sy12 ⊢
  have hz12 : W12.heap.size = W11.heap.size := by rw [hW]; simp
  rw [← hz12] at sx12 sy12
  clear hW hz12 h11 vx11 vy11 sx11 hs4 d0 d1 d2 d3 x0 x1 x2 x3 u0 u1 u2 u3 f1 f2 f3 l1 l2 l3
  clear i0 i1 i2 i3 f4 l4 j0 j1 j2 j3 f5 l5
  obtain ⟨d0, d1, d2, d3, f1⟩ := h12.p.cells4
  obtain ⟨x0, x1, x2, x3, f2⟩ := h12.q.cells4
  obtain ⟨u0, u1, u2, u3, f3⟩ := h12.u.cells4
  have l1 := h12.p.lt
  have l2 := h12.q.lt
  have l3 := h12.u.lt
  obtain ⟨i0, i1, i2, i3, f4⟩ := vx12.cells4
  have l4 := vx12.lt
  obtain ⟨j0, j1, j2, j3, f5⟩ := vy12.cells4
  have l5 := vy12.lt
  refine (ref_same_any A3 A4 m3 m4 c3 c4 W12.heap.size fsb fsb capb capb leftb leftb downb downb true _ HL3.out HL4.out sx12 sy12 (Nat.le_refl _) (by rw [← HL3.out]; exact HLb.out) (by rw [← HL4.out]; exact HLb.out) (same_self_ _)).mono ?_
  rintro e W13 ⟨rfl, hx⟩
  have h13 := h12.next hx
  have vx13 := vx12.below hx vx12.lt
  have vy13 := vy12.below hx vy12.lt
  clear hx h12 vx12 vy12 sx12 sy12 d0 d1 d2 d3 x0 x1 x2 x3 u0 u1 u2 u3 f1 f2 f3 l1 l2 l3
  clear i0 i1 i2 i3 f4 l4 j0 j1 j2 j3 f5 l5
  obtain ⟨d0, d1, d2, d3, f1⟩ := h13.p.cells4
  obtain ⟨x0, x1, x2, x3, f2⟩ := h13.q.cells4
  obtain ⟨u0, u1, u2, u3, f3⟩ := h13.u.cells4
  have l1 := h13.p.lt
  have l2 := h13.q.lt
  have l3 := h13.u.lt
  obtain ⟨i0, i1, i2, i3, f4⟩ := vx13.cells4
  have l4 := vx13.lt
  obtain ⟨j0, j1, j2, j3, f5⟩ := vy13.cells4
  have l5 := vy13.lt
  have yr : (rb == rb) = true := by simp
  go_wp2_with fail
  clear yr
  refine (crash_any A K n c w.heap.size kn kc fs fsc keep cap left capc leftc down downc rc _ HN.out h13.s h13.b.size hsm HKN.out h13.ks hkw HRc.out).mono ?_
  rintro e W14 ⟨A5, m5, c5, rfl, hl5, hs5, hm5, hx⟩
  have HL5 := Lib.hid hl5
  have h14 := h13.next hx
  have vx14 := vx13.below hx vx13.lt
  have vy14 := vy13.below hx vy13.lt
  clear hx h13 vx13 vy13 hl5 d0 d1 d2 d3 x0 x1 x2 x3 u0 u1 u2 u3 f1 f2 f3 l1 l2 l3
  clear i0 i1 i2 i3 f4 l4 j0 j1 j2 j3 f5 l5
  obtain ⟨d0, d1, d2, d3, f1⟩ := h14.p.cells4
  obtain ⟨x0, x1, x2, x3, f2⟩ := h14.q.cells4
  obtain ⟨u0, u1, u2, u3, f3⟩ := h14.u.cells4
  have l1 := h14.p.lt
  have l2 := h14.q.lt
  have l3 := h14.u.lt
  obtain ⟨i0, i1, i2, i3, f4⟩ := vx14.cells4
  have l4 := vx14.lt
  obtain ⟨j0, j1, j2, j3, f5⟩ := vy14.cells4
  have l5 := vy14.lt
  go_wp2_with fail
  obtain ⟨W15, hW⟩ : ∃ W15, W15 = (((W14.setCell ⟨g13, 0, none⟩ (.slice A5 m5 c5)).setCell ⟨g13, 1, none⟩ (.int .i64 capc)).setCell ⟨g13, 2, none⟩ (.int .i64 leftc)).setCell ⟨g13, 3, none⟩ (.bool downc) := ⟨_, rfl⟩
  have h15 := h14.set4 hz13 (.slice A5 m5 c5) (.int .i64 capc) (.int .i64 leftc) (.bool downc)
  have vx15 := set4_var (a := .slice A5 m5 c5) (b := .int .i64 capc) (c := .int .i64 leftc) (d := .bool downc) vx14
  have vy15 := set4_other (a := .slice A5 m5 c5) (b := .int .i64 capc) (c := .int .i64 leftc) (d := .bool downc) vy14 (Ne.symm hne)
  have sx15 := seen4 (a := .slice A5 m5 c5) (b := .int .i64 capc) (c := .int .i64 leftc) (d := .bool downc) hs5 vx14 disk_noText
  rw [← hW] at h15 vx15 vy15 sx15 ⊢
  have hz15 : W15.heap.size = W14.heap.size := by rw [hW]; simp
  rw [← hz15] at sx15
  clear hW hz15 h14 vx14 vy14 hs5 d0 d1 d2 d3 x0 x1 x2 x3 u0 u1 u2 u3 f1 f2 f3 l1 l2 l3
  clear i0 i1 i2 i3 f4 l4 j0 j1 j2 j3 f5 l5
  obtain ⟨d0, d1, d2, d3, f1⟩ := h15.p.cells4
  obtain ⟨x0, x1, x2, x3, f2⟩ := h15.q.cells4
  obtain ⟨u0, u1, u2, u3, f3⟩ := h15.u.cells4
  have l1 := h15.p.lt
  have l2 := h15.q.lt
  have l3 := h15.u.lt
  obtain ⟨i0, i1, i2, i3, f4⟩ := vx15.cells4
  have l4 := vx15.lt
  obtain ⟨j0, j1, j2, j3, f5⟩ := vy15.cells4
  have l5 := vy15.lt
  refine (ref_crash_any A K n c w.heap.size kn kc fs fsc keep cap left capc leftc down downc rc _ HN.out h15.s h15.b.size hsm HKN.out h15.ks hkw HRc.out).mono ?_
  rintro e W16 ⟨A6, m6, c6, rfl, hl6, hs6, hm6, hx⟩
  have HL6 := Lib.hid hl6
  have h16 := h15.next hx
  have vx16 := vx15.below hx vx15.lt
  have vy16 := vy15.below hx vy15.lt
  have sx16 := (sx15.below hx).up hx.size
  clear hx h15 vx15 vy15 sx15 hl6 d0 d1 d2 d3 x0 x1 x2 x3 u0 u1 u2 u3 f1 f2 f3 l1 l2 l3
  clear i0 i1 i2 i3 f4 l4 j0 j1 j2 j3 f5 l5
  obtain ⟨d0, d1, d2, d3, f1⟩ := h16.p.cells4
  obtain ⟨x0, x1, x2, x3, f2⟩ := h16.q.cells4
  obtain ⟨u0, u1, u2, u3, f3⟩ := h16.u.cells4
  have l1 := h16.p.lt
  have l2 := h16.q.lt
  have l3 := h16.u.lt
  obtain ⟨i0, i1, i2, i3, f4⟩ := vx16.cells4
  have l4 := vx16.lt
  obtain ⟨j0, j1, j2, j3, f5⟩ := vy16.cells4
  have l5 := vy16.lt
  go_wp2_with fail
  obtain ⟨W17, hW⟩ : ∃ W17, W17 = (((W16.setCell ⟨g15, 0, none⟩ (.slice A6 m6 c6)).setCell ⟨g15, 1, none⟩ (.int .i64 capc)).setCell ⟨g15, 2, none⟩ (.int .i64 leftc)).setCell ⟨g15, 3, none⟩ (.bool downc) := ⟨_, rfl⟩
  have h17 := h16.set4 hz15 (.slice A6 m6 c6) (.int .i64 capc) (.int .i64 leftc) (.bool downc)
  have vy17 := set4_var (a := .slice A6 m6 c6) (b := .int .i64 capc) (c := .int .i64 leftc) (d := .bool downc) vy16
  have vx17 := set4_other (a := .slice A6 m6 c6) (b := .int .i64 capc) (c := .int .i64 leftc) (d := .bool downc) vx16 hne
  have sx17 := seen4 (a := .slice A6 m6 c6) (b := .int .i64 capc) (c := .int .i64 leftc) (d := .bool downc) sx16 vy16 disk_noText
  have sy17 := seen4 (a := .slice A6 m6 c6) (b := .int .i64 capc) (c := .int .i64 leftc) (d := .bool downc) hs6 vy16 disk_noText
  rw [← hW] at h17 vx17 vy17 sx17 sy17 ⊢
  have hz17 : W17.heap.size = W16.heap.size := by rw [hW]; simp
  rw [← hz17] at sx17 sy17
  clear hW hz17 h16 vx16 vy16 sx16 hs6 d0 d1 d2 d3 x0 x1 x2 x3 u0 u1 u2 u3 f1 f2 f3 l1 l2 l3
  clear i0 i1 i2 i3 f4 l4 j0 j1 j2 j3 f5 l5
  obtain ⟨d0, d1, d2, d3, f1⟩ := h17.p.cells4
  obtain ⟨x0, x1, x2, x3, f2⟩ := h17.q.cells4
  obtain ⟨u0, u1, u2, u3, f3⟩ := h17.u.cells4
  have l1 := h17.p.lt
  have l2 := h17.q.lt
  have l3 := h17.u.lt
  obtain ⟨i0, i1, i2, i3, f4⟩ := vx17.cells4
  have l4 := vx17.lt
  obtain ⟨j0, j1, j2, j3, f5⟩ := vy17.cells4
  have l5 := vy17.lt
  refine (ref_same_any A5 A6 m5 m6 c5 c6 W17.heap.size fsc fsc capc capc leftc leftc downc downc true _ HL5.out HL6.out sx17 sy17 (Nat.le_refl _) (by rw [← HL5.out]; exact HLc.out) (by rw [← HL6.out]; exact HLc.out) (same_self_ _)).mono ?_
  rintro e W18 ⟨rfl, hx⟩
  have h18 := h17.next hx
  have vx18 := vx17.below hx vx17.lt
  have vy18 := vy17.below hx vy17.lt
  clear hx h17 vx17 vy17 sx17 sy17 d0 d1 d2 d3 x0 x1 x2 x3 u0 u1 u2 u3 f1 f2 f3 l1 l2 l3
  clear i0 i1 i2 i3 f4 l4 j0 j1 j2 j3 f5 l5
  obtain ⟨d0, d1, d2, d3, f1⟩ := h18.p.cells4
  obtain ⟨x0, x1, x2, x3, f2⟩ := h18.q.cells4
  obtain ⟨u0, u1, u2, u3, f3⟩ := h18.u.cells4
  have l1 := h18.p.lt
  have l2 := h18.q.lt
  have l3 := h18.u.lt
  obtain ⟨i0, i1, i2, i3, f4⟩ := vx18.cells4
  have l4 := vx18.lt
  obtain ⟨j0, j1, j2, j3, f5⟩ := vy18.cells4
  have l5 := vy18.lt
  have yr : (rc == rc) = true := by simp
  go_wp2_with fail
  clear yr
  refine (new_any k capd leftd fsd downd rd _ HRd.out).mono ?_
  rintro e W19 ⟨A7, m7, c7, rfl, hl7, hs7, hm7, hx⟩
  have HL7 := Lib.hid hl7
  have h19 := h18.next hx
  have vx19 := vx18.below hx vx18.lt
  have vy19 := vy18.below hx vy18.lt
  clear hx h18 vx18 vy18 hl7 d0 d1 d2 d3 x0 x1 x2 x3 u0 u1 u2 u3 f1 f2 f3 l1 l2 l3
  clear i0 i1 i2 i3 f4 l4 j0 j1 j2 j3 f5 l5
  obtain ⟨d0, d1, d2, d3, f1⟩ := h19.p.cells4
  obtain ⟨x0, x1, x2, x3, f2⟩ := h19.q.cells4
  obtain ⟨u0, u1, u2, u3, f3⟩ := h19.u.cells4
  have l1 := h19.p.lt
  have l2 := h19.q.lt
  have l3 := h19.u.lt
  obtain ⟨i0, i1, i2, i3, f4⟩ := vx19.cells4
  have l4 := vx19.lt
  obtain ⟨j0, j1, j2, j3, f5⟩ := vy19.cells4
  have l5 := vy19.lt
  go_wp2_with fail
  obtain ⟨W20, hW⟩ : ∃ W20, W20 = (((W19.setCell ⟨g13, 0, none⟩ (.slice A7 m7 c7)).setCell ⟨g13, 1, none⟩ (.int .i64 capd)).setCell ⟨g13, 2, none⟩ (.int .i64 leftd)).setCell ⟨g13, 3, none⟩ (.bool downd) := ⟨_, rfl⟩
  have h20 := h19.set4 hz13 (.slice A7 m7 c7) (.int .i64 capd) (.int .i64 leftd) (.bool downd)
  have vx20 := set4_var (a := .slice A7 m7 c7) (b := .int .i64 capd) (c := .int .i64 leftd) (d := .bool downd) vx19
  have vy20 := set4_other (a := .slice A7 m7 c7) (b := .int .i64 capd) (c := .int .i64 leftd) (d := .bool downd) vy19 (Ne.symm hne)
  have sx20 := seen4 (a := .slice A7 m7 c7) (b := .int .i64 capd) (c := .int .i64 leftd) (d := .bool downd) hs7 vx19 disk_noText
  rw [← hW] at h20 vx20 vy20 sx20 ⊢
  have hz20 : W20.heap.size = W19.heap.size := by rw [hW]; simp
  rw [← hz20] at sx20
  clear hW hz20 h19 vx19 vy19 hs7 d0 d1 d2 d3 x0 x1 x2 x3 u0 u1 u2 u3 f1 f2 f3 l1 l2 l3
  clear i0 i1 i2 i3 f4 l4 j0 j1 j2 j3 f5 l5
  obtain ⟨d0, d1, d2, d3, f1⟩ := h20.p.cells4
  obtain ⟨x0, x1, x2, x3, f2⟩ := h20.q.cells4
  obtain ⟨u0, u1, u2, u3, f3⟩ := h20.u.cells4
  have l1 := h20.p.lt
  have l2 := h20.q.lt
  have l3 := h20.u.lt
  obtain ⟨i0, i1, i2, i3, f4⟩ := vx20.cells4
  have l4 := vx20.lt
  obtain ⟨j0, j1, j2, j3, f5⟩ := vy20.cells4
  have l5 := vy20.lt
  refine (ref_new_any k capd leftd fsd downd rd _ HRd.out).mono ?_
  rintro e W21 ⟨A8, m8, c8, rfl, hl8, hs8, hm8, hx⟩
  have HL8 := Lib.hid hl8
  have h21 := h20.next hx
  have vx21 := vx20.below hx vx20.lt
  have vy21 := vy20.below hx vy20.lt
  have sx21 := (sx20.below hx).up hx.size
  clear hx h20 vx20 vy20 sx20 hl8 d0 d1 d2 d3 x0 x1 x2 x3 u0 u1 u2 u3 f1 f2 f3 l1 l2 l3
  clear i0 i1 i2 i3 f4 l4 j0 j1 j2 j3 f5 l5
  obtain ⟨d0, d1, d2, d3, f1⟩ := h21.p.cells4
  obtain ⟨x0, x1, x2, x3, f2⟩ := h21.q.cells4
  obtain ⟨u0, u1, u2, u3, f3⟩ := h21.u.cells4
  have l1 := h21.p.lt
  have l2 := h21.q.lt
  have l3 := h21.u.lt
  obtain ⟨i0, i1, i2, i3, f4⟩ := vx21.cells4
  have l4 := vx21.lt
  obtain ⟨j0, j1, j2, j3, f5⟩ := vy21.cells4
  have l5 := vy21.lt
  go_wp2_with fail
  obtain ⟨W22, hW⟩ : ∃ W22, W22 = (((W21.setCell ⟨g15, 0, none⟩ (.slice A8 m8 c8)).setCell ⟨g15, 1, none⟩ (.int .i64 capd)).setCell ⟨g15, 2, none⟩ (.int .i64 leftd)).setCell ⟨g15, 3, none⟩ (.bool downd) := ⟨_, rfl⟩
  have h22 := h21.set4 hz15 (.slice A8 m8 c8) (.int .i64 capd) (.int .i64 leftd) (.bool downd)
  have vy22 := set4_var (a := .slice A8 m8 c8) (b := .int .i64 capd) (c := .int .i64 leftd) (d := .bool downd) vy21
  have vx22 := set4_other (a := .slice A8 m8 c8) (b := .int .i64 capd) (c := .int .i64 leftd) (d := .bool downd) vx21 hne
  have sx22 := seen4 (a := .slice A8 m8 c8) (b := .int .i64 capd) (c := .int .i64 leftd) (d := .bool downd) sx21 vy21 disk_noText
  have sy22 := seen4 (a := .slice A8 m8 c8) (b := .int .i64 capd) (c := .int .i64 leftd) (d := .bool downd) hs8 vy21 disk_noText
  rw [← hW] at h22 vx22 vy22 sx22 sy22 ⊢
  have hz22 : W22.heap.size = W21.heap.size := by rw [hW]; simp
  rw [← hz22] at sx22 sy22
  clear hW hz22 h21 vx21 vy21 sx21 hs8 d0 d1 d2 d3 x0 x1 x2 x3 u0 u1 u2 u3 f1 f2 f3 l1 l2 l3
  clear i0 i1 i2 i3 f4 l4 j0 j1 j2 j3 f5 l5
  obtain ⟨d0, d1, d2, d3, f1⟩ := h22.p.cells4
  obtain ⟨x0, x1, x2, x3, f2⟩ := h22.q.cells4
  obtain ⟨u0, u1, u2, u3, f3⟩ := h22.u.cells4
  have l1 := h22.p.lt
  have l2 := h22.q.lt
  have l3 := h22.u.lt
  obtain ⟨i0, i1, i2, i3, f4⟩ := vx22.cells4
  have l4 := vx22.lt
  obtain ⟨j0, j1, j2, j3, f5⟩ := vy22.cells4
  have l5 := vy22.lt
  refine (get_any A n c w.heap.size fs cap left down name fn fb s th _ HGET.out HN.out h22.s h22.b.size (by have := HN.out; have := hsm.1; omega)).mono ?_
  rintro e W23 ⟨rfl, hx⟩
  have h23 := h22.next hx
  have vx23 := vx22.below hx vx22.lt
  have vy23 := vy22.below hx vy22.lt
  have sx23 := (sx22.below hx).up hx.size
  have sy23 := (sy22.below hx).up hx.size
  clear hx h22 vx22 vy22 sx22 sy22 d0 d1 d2 d3 x0 x1 x2 x3 u0 u1 u2 u3 f1 f2 f3 l1 l2 l3
  clear i0 i1 i2 i3 f4 l4 j0 j1 j2 j3 f5 l5
  obtain ⟨d0, d1, d2, d3, f1⟩ := h23.p.cells4
  obtain ⟨x0, x1, x2, x3, f2⟩ := h23.q.cells4
  obtain ⟨u0, u1, u2, u3, f3⟩ := h23.u.cells4
  have l1 := h23.p.lt
  have l2 := h23.q.lt
  have l3 := h23.u.lt
  obtain ⟨i0, i1, i2, i3, f4⟩ := vx23.cells4
  have l4 := vx23.lt
  obtain ⟨j0, j1, j2, j3, f5⟩ := vy23.cells4
  have l5 := vy23.lt
  go_wp2_with fail
  obtain ⟨W24, hW⟩ : ∃ W24, W24 = W23.alloc (.cells #[.string fn, .string fb, .int .i64 s] 41) := ⟨_, rfl⟩
  obtain ⟨g17, hg⟩ : ∃ g17, g17 = W23.heap.size := ⟨_, rfl⟩
  have hb := bel1 W23 #[.string fn, .string fb, .int .i64 s] 41
  have h24 := h23.next hb
  have vx24 := vx23.below hb vx23.lt
  have vy24 := vy23.below hb vy23.lt
  have sx24 := (sx23.below hb).up hb.size
  have sy24 := (sy23.below hb).up hb.size
  have va24 := new1 W23 #[.string fn, .string fb, .int .i64 s] 41
  rw [← hW] at h24 vx24 vy24 sx24 sy24 va24 ⊢
  rw [← hg] at va24 ⊢
  clear hW hg hb h23 vx23 vy23 sx23 sy23 d0 d1 d2 d3 x0 x1 x2 x3 u0 u1 u2 u3 f1 f2 f3 l1 l2 l3
  clear i0 i1 i2 i3 f4 l4 j0 j1 j2 j3 f5 l5
  obtain ⟨d0, d1, d2, d3, f1⟩ := h24.p.cells4
  obtain ⟨x0, x1, x2, x3, f2⟩ := h24.q.cells4
  obtain ⟨u0, u1, u2, u3, f3⟩ := h24.u.cells4
  have l1 := h24.p.lt
  have l2 := h24.q.lt
  have l3 := h24.u.lt
  obtain ⟨i0, i1, i2, i3, f4⟩ := vx24.cells4
  have l4 := vx24.lt
  obtain ⟨j0, j1, j2, j3, f5⟩ := vy24.cells4
  have l5 := vy24.lt
  refine (ref_get_any A n c w.heap.size fs cap left down name fn fb s th _ HGET.out HN.out h24.s h24.b.size (by have := HN.out; have := hsm.1; omega)).mono ?_
  rintro e W25 ⟨rfl, hx⟩
  have h25 := h24.next hx
  have vx25 := vx24.below hx vx24.lt
  have vy25 := vy24.below hx vy24.lt
  have sx25 := (sx24.below hx).up hx.size
  have sy25 := (sy24.below hx).up hx.size
  have va25 := va24.below hx va24.lt
  clear hx h24 vx24 vy24 sx24 sy24 va24 d0 d1 d2 d3 x0 x1 x2 x3 u0 u1 u2 u3 f1 f2 f3 l1 l2 l3
  clear i0 i1 i2 i3 f4 l4 j0 j1 j2 j3 f5 l5
  obtain ⟨d0, d1, d2, d3, f1⟩ := h25.p.cells4
  obtain ⟨x0, x1, x2, x3, f2⟩ := h25.q.cells4
  obtain ⟨u0, u1, u2, u3, f3⟩ := h25.u.cells4
  have l1 := h25.p.lt
  have l2 := h25.q.lt
  have l3 := h25.u.lt
  obtain ⟨i0, i1, i2, i3, f4⟩ := vx25.cells4
  have l4 := vx25.lt
  obtain ⟨j0, j1, j2, j3, f5⟩ := vy25.cells4
  have l5 := vy25.lt
  go_wp2_with fail
  obtain ⟨W26, hW⟩ : ∃ W26, W26 = W25.alloc (.cells #[.string fn, .string fb, .int .i64 s] 41) := ⟨_, rfl⟩
  obtain ⟨g19, hg⟩ : ∃ g19, g19 = W25.heap.size := ⟨_, rfl⟩
  have hb := bel1 W25 #[.string fn, .string fb, .int .i64 s] 41
  have h26 := h25.next hb
  have vx26 := vx25.below hb vx25.lt
  have vy26 := vy25.below hb vy25.lt
  have sx26 := (sx25.below hb).up hb.size
  have sy26 := (sy25.below hb).up hb.size
  have vb26 := new1 W25 #[.string fn, .string fb, .int .i64 s] 41
  have va26 := va25.below hb va25.lt
  rw [← hW] at h26 vx26 vy26 sx26 sy26 va26 vb26 ⊢
  rw [← hg] at vb26 ⊢
  clear hW hg hb h25 vx25 vy25 sx25 sy25 va25 d0 d1 d2 d3 x0 x1 x2 x3 u0 u1 u2 u3 f1 f2 f3 l1 l2 l3
  clear i0 i1 i2 i3 f4 l4 j0 j1 j2 j3 f5 l5
  have ha0 := fun (x : After W26) => (Var.cells4 (h26.p.below x.below h26.p.lt)).1
  have ha1 := fun (x : After W26) => (Var.cells4 (h26.p.below x.below h26.p.lt)).2.1
  have ha2 := fun (x : After W26) => (Var.cells4 (h26.p.below x.below h26.p.lt)).2.2.1
  have ha3 := fun (x : After W26) => (Var.cells4 (h26.p.below x.below h26.p.lt)).2.2.2.1
  have hb0 := fun (x : After W26) => (Var.cells4 (h26.q.below x.below h26.q.lt)).1
  have hb1 := fun (x : After W26) => (Var.cells4 (h26.q.below x.below h26.q.lt)).2.1
  have hb2 := fun (x : After W26) => (Var.cells4 (h26.q.below x.below h26.q.lt)).2.2.1
  have hb3 := fun (x : After W26) => (Var.cells4 (h26.q.below x.below h26.q.lt)).2.2.2.1
  have hc0 := fun (x : After W26) => (Var.cells4 (vx26.below x.below vx26.lt)).1
  have hc1 := fun (x : After W26) => (Var.cells4 (vx26.below x.below vx26.lt)).2.1
  have hc2 := fun (x : After W26) => (Var.cells4 (vx26.below x.below vx26.lt)).2.2.1
  have hc3 := fun (x : After W26) => (Var.cells4 (vx26.below x.below vx26.lt)).2.2.2.1
  have hd0 := fun (x : After W26) => (Var.cells4 (vy26.below x.below vy26.lt)).1
  have hd1 := fun (x : After W26) => (Var.cells4 (vy26.below x.below vy26.lt)).2.1
  have hd2 := fun (x : After W26) => (Var.cells4 (vy26.below x.below vy26.lt)).2.2.1
  have hd3 := fun (x : After W26) => (Var.cells4 (vy26.below x.below vy26.lt)).2.2.2.1
  have he0 := fun (x : After W26) => (Var.cells3 (va26.below x.below va26.lt)).1
  have he1 := fun (x : After W26) => (Var.cells3 (va26.below x.below va26.lt)).2.1
  have he2 := fun (x : After W26) => (Var.cells3 (va26.below x.below va26.lt)).2.2.1
  have hf0 := fun (x : After W26) => (Var.cells3 (vb26.below x.below vb26.lt)).1
  have hf1 := fun (x : After W26) => (Var.cells3 (vb26.below x.below vb26.lt)).2.1
  have hf2 := fun (x : After W26) => (Var.cells3 (vb26.below x.below vb26.lt)).2.2.1
  have hgd : Tryd.prog.eqGuardType Tryd.prog.depth 41 = false := by kernel_rfl
  have y1 : (rd == rd) = true := by simp
  have y2 : (fn.toList == fn.toList) = true := by simp
  have y3 : (fb.toList == fb.toList) = true := by simp
  have y4 : (s == s) = true := by simp
  have y5 : (th == th) = true := by simp
  have y6 : (rk == rk) = true := by simp
  have y7 : ((us : Int) == (us : Int)) = true := by simp
  have y8 : (bs == bs) = true := by simp
  have y9 : (bn == bn) = true := by simp
  have hn100 : n ≤ 100 := by have := HN.out; have := hsm.1; omega
  have hno100 : no ≤ 100 := by have := HNO.out; have := hsmo.1; omega
  have hB := h26.b.size
  have HT := Lib.hid h26
  have HSX := Lib.hid sx26
  have HSY := Lib.hid sy26
  refine wp_region_after (by kernel_rfl) (by kernel_rfl) ?_
  repeat (go_big_quiet_step ((first
    | (go_at_call 14; with_reducible exact Calls.after (ref_same_any A7 A8 m7 m8 c7 c8 W26.heap.size fsd fsd capd capd leftd leftd downd downd true _ HL7.out HL8.out (HSX.out.below (After.below _)) (HSY.out.below (After.below _)) (After.below _).size (by rw [← HL7.out]; exact HLd.out) (by rw [← HL8.out]; exact HLd.out) (same_self_ _)))
    | (go_at_call 14; with_reducible exact Calls.after (ref_same_any A O n no c co w.heap.size fs gs cap capo left lefto down downo bs _ HN.out HNO.out (HT.out.s.below ((After.below _).mono hB)) (HT.out.so.below ((After.below _).mono hB)) (Nat.le_trans hB (After.below _).size) hn100 hno100 HBS.out))
    | (go_at_call 27; with_reducible exact Calls.after (same_any A O n no c co w.heap.size fs gs cap capo left lefto down downo bs _ HN.out HNO.out (HT.out.s.below ((After.below _).mono hB)) (HT.out.so.below ((After.below _).mono hB)) (Nat.le_trans hB (After.below _).size) hn100 hno100 HBS.out))
    | (go_at_call 23; with_reducible exact Calls.after (check_any A n c w.heap.size fs cap left down rk _ HN.out HRK.out (HT.out.s.below ((After.below _).mono hB)) (Nat.le_trans hB (After.below _).size) hsm))
    | (go_at_call 24; with_reducible exact Calls.after (ref_check_any A n c w.heap.size fs cap left down rk _ HN.out HRK.out (HT.out.s.below ((After.below _).mono hB)) (Nat.le_trans hB (After.below _).size) hsm))
    | (go_at_call 25; with_reducible exact Calls.after (used_any A n c w.heap.size fs cap left down us _ HN.out HUS.out (HT.out.s.below ((After.below _).mono hB)) (Nat.le_trans hB (After.below _).size) hsm))
    | (go_at_call 26; with_reducible exact Calls.after (ref_used_any A n c w.heap.size fs cap left down us _ HN.out HUS.out (HT.out.s.below ((After.below _).mono hB)) (Nat.le_trans hB (After.below _).size) hsm))
    | (go_at_call 28; with_reducible exact Calls.after (name_any name bn _ HBN.out (by omega)))
    | (go_at_call 29; exact Calls.after_same ((ref_name_any name bn _ HBN.out (by omega)).mono fun _ _ h => ⟨h.1, h.2.symm⟩))
    | (go_at_call 11; exact Calls.after (wakes_any _ (HG.out.next (HT.out.b.trans ((After.below _).mono hB))))))))
  refine wpQuiet_nil ?_
  rintro _ ⟨x, rfl⟩
  have hbx := HT.out.b.trans (x.below.mono hB)
  go_wp2
  go_ret
  exact ⟨rfl, hbx⟩
end Go.Proofs.YtbglpmjfajmkdaaDoor
