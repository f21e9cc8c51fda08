/-
  The walk over RecordBack: it returns true and turns nothing that was there. Conditions: what is said of the arguments.
-/
import Derived.Test.YtiilbcficgpohaaRecWakes
import Derived.Test.YtiilbcficgpohaaRecReadB
import Derived.Test.YtiilbcficgpohaaRecSameR
import Derived.Test.YtiilbcficgpohaaRecGreat
import Derived.Test.YtiilbcficgpohaaRecCut
import Derived.Test.YtiilbcficgpohaaRecBackPlain
namespace Go.Proofs.Ytiilbcficgpohaa
open Go.RowKit

set_option maxRecDepth 100000 in
set_option maxHeartbeats 600000 in
theorem back_walk (A : Option Addr) (n c : Nat) (rs : List Rc) (pid ep sq : Int) (tx : Bool) (raw : ByteArray) (cut off : Int) (w : World) (ha : BIn w A n c ⟨pid, ep, sq, tx, rs⟩) (hraw : raw.size ≤ 9223372036854775807) (hoff : -9223372036854775808 ≤ off ∧ off ≤ 9223372036854775807) :
    Calls Try.prog 5 #[.agg #[.int .i64 pid, .int .i64 ep, .int .i64 sq, .bool tx, .slice A n c], .string raw, .int .i64 cut, .int .i64 off] w fun e w' => e = .returned (.bool true) ∧ Below w.heap.size w w' := by
  obtain ⟨la, sa, ma, ca, za⟩ := ha
  simp only at la sa za
  have LA := Lib.hid la
  have ZA := Lib.hid za
  clear la za
  have v0 := Var.new w #[.int .i64 pid, .int .i64 ep, .int .i64 sq, .bool tx, .slice A n c] 24
  have b0 := below_new (w := w) (.cells #[.int .i64 pid, .int .i64 ep, .int .i64 sq, .bool tx, .slice A n c] 24)
  go_enter Try.func5, Try.ntmps5
  go_wp2_with fail
  obtain ⟨W0, hW0⟩ : ∃ W0, W0 = w.alloc (.cells #[.int .i64 pid, .int .i64 ep, .int .i64 sq, .bool tx, .slice A n c] 24) := ⟨_, rfl⟩
  rw [← hW0] at v0 b0 ⊢
  clear hW0
  have sa0 := sa.below b0
  clear sa
  refine (great_any A n c _ rs pid ep sq tx W0 LA.out sa0 b0.size ma ZA.out).mono ?_
  rintro e W1 ⟨g1, rfl, hf1, hb1⟩
  have v1 := v0.below hb1 v0.lt
  have b1 := b0.trans (hb1.mono b0.size)
  have sa1 := sa0.below (hb1.mono b0.size)
  have HF1 := Lib.hid hf1
  clear v0 b0 sa0 hb1 hf1
  cases g1 with
  | true =>
    clear HF1
    go_wp2_with fail
    refine (wakes_any _).mono ?_
    rintro e w9 ⟨rfl, hb9⟩
    have b9 := b1.trans (hb9.mono b1.size)
    go_wp2
    go_ret
    exact ⟨rfl, b9⟩
  | false =>
    by_cases hgr : 4000 < raw.size
    · have t1 : decide ((4000 : Int) < (raw.size : Int)) = true := by simp; omega
      clear HF1
      go_wp2_with fail
      refine (wakes_any _).mono ?_
      rintro e w9 ⟨rfl, hb9⟩
      have b9 := b1.trans (hb9.mono b1.size)
      go_wp2
      go_ret
      exact ⟨rfl, b9⟩
    · have t1 : decide ((4000 : Int) < (raw.size : Int)) = false := bool_dec _ (by omega)
      have hn60 : n ≤ 60 := by have h := HF1.out; exact (h (by first | rfl | trivial)).1
      have hx : raw.size ≤ 1000000 := by omega
      obtain ⟨x, er, hrd⟩ := readIs_of raw
      have HRD := Lib.hid hrd
      clear hrd HF1 hgr
      obtain ⟨xp, xe, xq, xt, xrs⟩ := x
      obtain ⟨nx, hnx⟩ : ∃ nx, nx = xrs.length := ⟨_, rfl⟩
      have HNX := Lib.hid hnx
      clear hnx
      go_wp2_with fail
      clear t1
      refine (read_any raw _ er W1 HRD.out hx).mono ?_
      rintro e W2 ⟨A2, c2, rfl, o2, hb2⟩
      simp only at o2 ⊢
      rw [← HNX.out] at o2 ⊢
      have sx2 := own_seen o2
      have v2 := v1.below hb2 v1.lt
      have b2 := b1.trans (hb2.mono b1.size)
      have sa2 := sa1.below (hb2.mono b1.size)
      clear o2 v1 b1 sa1 hb2
      obtain ⟨W3, hW3⟩ : ∃ W3, W3 = W2.alloc (.cells #[.int .i64 xp, .int .i64 xe, .int .i64 xq, .bool xt, .slice A2 nx c2] 24) := ⟨_, rfl⟩
      obtain ⟨x3, hx3⟩ : ∃ x, x = W2.heap.size := ⟨_, rfl⟩
      have v3 : Var W3 w.heap.size 24 #[.int .i64 pid, .int .i64 ep, .int .i64 sq, .bool tx, .slice A n c] := by rw [hW3]; exact v2.alloc _
      have w3 : Var W3 x3 24 #[.int .i64 xp, .int .i64 xe, .int .i64 xq, .bool xt, .slice A2 nx c2] := by rw [hW3, hx3]; exact Var.new _ _ _
      have b3 : Below w.heap.size w W3 := by rw [hW3]; exact b2.alloc b2.size _
      have sa3 : Seen W3 w.heap.size A (rcells rs) := by rw [hW3]; exact sa2.below ((Below.refl w.heap.size W2).alloc b2.size _)
      have sx3 : Seen W3 W3.heap.size A2 (rcells xrs) := by rw [hW3]; exact (sx2.below (below_new _)).up (by simp)
      have HW3 := Lib.hid hW3
      have HX3 := Lib.hid hx3
      clear b2 sa2 sx2 hW3 hx3
      rcases HRD.out with ⟨hxb, hxg, rfl⟩ | ⟨_, _, rfl⟩
      focus
        have HXG := Lib.hid hxg
        have HXB : Hid (BytesIs ⟨xp, xe, xq, xt, xrs⟩ raw 0) := .inl ⟨hxg, string_of hxb, rfl⟩
        have HZX : Hid (∀ y ∈ xrs, y.k.size ≤ 9223372036854775807 ∧ y.v.size ≤ 9223372036854775807) := fun y hy => by have := hxg.2.2.2.2 y hy; unfold Rc.Good at this; omega
        have hnx4 : nx ≤ 4 := by have := hxg.2.2.1.2; have := HNX.out; simp only at *; omega
        clear hxb hxg HRD v2
        obtain ⟨d0, d1, d2, d3, d4, f1⟩ := w3.cells5
        have l3 := w3.lt
        have y0 : ((0 : Int) == 0) = true := by decide
        have y1 : ((0 : Int) != 0) = false := by decide
        have y2 : (raw.toList == raw.toList) = true := by simp
        go_wp2_with fail
        rw [← HW3.out, ← HX3.out]
        refine (bytes_all A2 nx c2 _ xrs xp xe xq xt W3 raw 0 HXB.out HNX.out.symm sx3 (Nat.le_refl _) (by omega) HZX.out).mono ?_
        rintro e W4 ⟨rfl, hb4⟩
        have v4 := v3.below hb4 v3.lt
        have w4 := w3.below hb4 w3.lt
        have b4 := b3.trans (hb4.mono b3.size)
        have sa4 := sa3.below (hb4.mono b3.size)
        have sx4 := sx3.below hb4
        have z4 := hb4.size
        clear d0 d1 d2 d3 d4 f1 l3 v3 w3 b3 sa3 sx3 hb4 HXB
        obtain ⟨d0, d1, d2, d3, d4, f1⟩ := w4.cells5
        have l4 := w4.lt
        go_wp2_with fail
        refine (may_any A2 nx c2 _ xrs xp xe xq xt true W4 HNX.out.symm ⟨fun _ => HXG.out, fun _ => rfl⟩ sx4 z4 (by omega) HZX.out).mono ?_
        rintro e W5 ⟨rfl, hb5⟩
        have v5 := v4.below hb5 v4.lt
        have b5 := b4.trans (hb5.mono b4.size)
        have sa5 := sa4.below (hb5.mono b4.size)
        clear d0 d1 d2 d3 d4 f1 l4 v4 w4 b4 sa4 sx4 hb5 z4 HXG HZX hnx4 HW3 HX3 HNX
        obtain ⟨d0, d1, d2, d3, d4, f1⟩ := v5.cells5
        have l5 := v5.lt
        go_wp2_with fail
        clear d0 d1 d2 d3 d4 f1 l5 y0 y1 y2
      rotate_left 1
      focus
        have y0 : ((70 : Int) == 0) = false := by decide
        obtain ⟨d0, d1, d2, d3, d4, f1⟩ := v2.cells5
        have l5 := v2.lt
        go_wp2_with fail
        rw [← HW3.out, ← HX3.out]
        clear d0 d1 d2 d3 d4 f1 l5 y0 v2 HX3 HW3 HRD HNX w3 sx3
        obtain ⟨W5, hW5⟩ : ∃ W5, W5 = W3 := ⟨_, rfl⟩
        subst hW5
        have v5 := v3
        have b5 := b3
        have sa5 := sa3
        clear v3 b3 sa3
      all_goals
        obtain ⟨bs, fr, hbs⟩ := bytesIs_of ⟨pid, ep, sq, tx, rs⟩
        have HBS := Lib.hid hbs
        clear hbs
        refine (bytes_all A n c _ rs pid ep sq tx W5 bs fr HBS.out LA.out sa5 b5.size ma ZA.out).mono ?_
        rintro e W6 ⟨rfl, hb6⟩
        have v6 := v5.below hb6 v5.lt
        have b6 := b5.trans (hb6.mono b5.size)
        have sa6 := sa5.below (hb6.mono b5.size)
        clear v5 b5 sa5 hb6
        obtain ⟨d0, d1, d2, d3, d4, f1⟩ := v6.cells5
        have l6 := v6.lt
        by_cases hg : Bt.Good ⟨pid, ep, sq, tx, rs⟩
        · obtain rfl : 0 = fr := by
            rcases HBS.out with ⟨_, _, h'⟩ | ⟨h, _⟩
            · exact h'.symm
            · exact absurd hg h
          have HB : Hid (bytesOf bs = Bt.enc ⟨pid, ep, sq, tx, rs⟩) := by
            rcases HBS.out with ⟨_, h, _⟩ | ⟨h, _⟩
            · show _ = _; rw [h, bytesOf_mk]
            · exact absurd hg h
          have HG := Lib.hid hg
          have hsz : bs.size ≤ 160 := by rw [← bytesOf_length, HB.out]; exact Bt.enc_le hg
          have hs0 : 0 < bs.size := by rw [← bytesOf_length, HB.out]; exact Bt.enc_pos _
          have HR : Hid (ReadIs bs ⟨pid, ep, sq, tx, rs⟩ 0) := .inl ⟨HB.out, hg, rfl⟩
          have y0 : ((0 : Int) != 0) = false := by decide
          clear HBS hg
          go_wp2_with fail
          refine (read_any bs _ 0 W6 HR.out (by omega)).mono ?_
          rintro e W7 ⟨A7, c7, rfl, o7, hb7⟩
          simp only [LA.out] at o7 ⊢
          have sy7 := own_seen o7
          have v7 := v6.below hb7 v6.lt
          have b7 := b6.trans (hb7.mono b6.size)
          have sa7 := sa6.below (hb7.mono b6.size)
          clear o7 v6 b6 sa6 hb7 d0 d1 d2 d3 d4 f1 l6 y0
          obtain ⟨d0, d1, d2, d3, d4, f1⟩ := v7.cells5
          have l7 := v7.lt
          obtain ⟨W8, hW8⟩ : ∃ W8, W8 = W7.alloc (.cells #[.int .i64 pid, .int .i64 ep, .int .i64 sq, .bool tx, .slice A7 n c7] 24) := ⟨_, rfl⟩
          obtain ⟨x8, hx8⟩ : ∃ x, x = W7.heap.size := ⟨_, rfl⟩
          have v8 : Var W8 w.heap.size 24 #[.int .i64 pid, .int .i64 ep, .int .i64 sq, .bool tx, .slice A n c] := by rw [hW8]; exact v7.alloc _
          have w8 : Var W8 x8 24 #[.int .i64 pid, .int .i64 ep, .int .i64 sq, .bool tx, .slice A7 n c7] := by rw [hW8, hx8]; exact Var.new _ _ _
          have b8 : Below w.heap.size w W8 := by rw [hW8]; exact b7.alloc b7.size _
          have sa8 : Seen W8 w.heap.size A (rcells rs) := by rw [hW8]; exact sa7.below ((Below.refl w.heap.size W7).alloc b7.size _)
          have sy8 : Seen W8 W8.heap.size A7 (rcells rs) := by rw [hW8]; exact (sy7.below (below_new _)).up (by simp)
          have HW8 := Lib.hid hW8
          have HX8 := Lib.hid hx8
          clear v7 b7 sa7 sy7 hW8 hx8
          go_wp2_with fail
          rw [← HW8.out, ← HX8.out]
          clear d0 d1 d2 d3 d4 f1 l7 HW8 HX8
          refine (may_any A n c _ rs pid ep sq tx true W8 LA.out ⟨fun _ => HG.out, fun _ => rfl⟩ sa8 b8.size ma ZA.out).mono ?_
          rintro e W9 ⟨rfl, hb9⟩
          have v9 := v8.below hb9 v8.lt
          have w9 := w8.below hb9 w8.lt
          have b9 := b8.trans (hb9.mono b8.size)
          have sa9 := (sa8.below (hb9.mono b8.size)).up b9.size
          have sy9 := (sy8.below hb9).up hb9.size
          clear v8 w8 b8 sa8 sy8 hb9
          obtain ⟨d0, d1, d2, d3, d4, f1⟩ := v9.cells5
          obtain ⟨e0, e1, e2, e3, e4, f2⟩ := w9.cells5
          have l9 := v9.lt
          have m9 := w9.lt
          have y0 : ((0 : Int) != 0) = false := by decide
          go_wp2_with fail
          refine (ref_same_any A A7 n n c c7 _ rs rs pid ep sq pid ep sq tx tx true W9 LA.out LA.out (by simp) sa9 sy9 (Nat.le_refl _) ma ma).mono ?_
          rintro e W10 ⟨rfl, hb10⟩
          have v10 := v9.below hb10 v9.lt
          have b10 := b9.trans (hb10.mono b9.size)
          have sa10 := sa9.below hb10
          have z10 := hb10.size
          clear v9 w9 b9 sy9 hb10 d0 d1 d2 d3 d4 f1 e0 e1 e2 e3 e4 f2 l9 m9
          have t1 : decide ((160 : Int) < (bs.size : Int)) = false := bool_dec _ (by omega)
          have t2 := not_empty hs0
          have t0 : bytesOf bs = [] → False := fun h => by
            have h2 : bs.size = 0 := by rw [← bytesOf_length, h]; rfl
            omega
          have t3 : (bs.toList == []) = false := by rw [toList_is, ← Bool.not_eq_true, beq_iff_eq]; exact t0
          have t4 : bs.toList.isEmpty = false := by rw [← Bool.not_eq_true, List.isEmpty_iff, toList_is]; exact t0
          clear t0
          obtain ⟨k, hk, hkn⟩ := cut_is cut bs.size hs0 (by omega)
          have HR2 : Hid (ReadIs (bs.extract 0 k) noBt 70) := read_cut HG.out HB.out (by rw [← HB.out, bytesOf_length]; exact hkn)
          have he2 : (bs.extract 0 k).size ≤ 1000000 := by rw [extract_size _ _ _ (by omega) (by omega)]; omega
          go_wp2_with fail
          refine (read_any (bs.extract 0 k) _ 70 W10 HR2.out he2).mono ?_
          rintro e W11 ⟨A11, c11, rfl, -, hb11⟩
          have v11 := v10.below hb11 v10.lt
          have b11 := b10.trans (hb11.mono b10.size)
          have sa11 := (sa10.below (hb11.mono z10)).up (Nat.le_trans z10 hb11.size)
          clear v10 b10 sa10 hb11 z10 t1 t2 t3 t4 hk y0
          simp only [noBt, List.length_nil]
          obtain ⟨ms, hms⟩ : ∃ ms, ms = bs ++ (⟨#[0]⟩ : ByteArray) := ⟨_, rfl⟩
          have HR3 : Hid (ReadIs ms noBt 70) := by rw [hms]; exact read_more HG.out HB.out
          have he3 : ms.size ≤ 1000000 := by rw [hms, app_size]; have : (⟨#[0]⟩ : ByteArray).size = 1 := rfl; omega
          have HMS := Lib.hid hms
          clear hms
          go_wp2_with fail
          rw [← HMS.out]
          obtain ⟨W12, hW12⟩ : ∃ W12, W12 = W11.alloc (.cells #[.int .i64 0, .int .i64 0, .int .i64 0, .bool false, .slice A11 0 c11] 24) := ⟨_, rfl⟩
          have v12 : Var W12 w.heap.size 24 #[.int .i64 pid, .int .i64 ep, .int .i64 sq, .bool tx, .slice A n c] := by rw [hW12]; exact v11.alloc _
          have b12 : Below w.heap.size w W12 := by rw [hW12]; exact b11.alloc b11.size _
          have sa12 : Seen W12 W12.heap.size A (rcells rs) := by rw [hW12]; exact (sa11.below (below_new _)).up (by simp)
          rw [← hW12]
          clear hW12 v11 b11 sa11
          refine (read_any ms _ 70 W12 HR3.out he3).mono ?_
          rintro e W13 ⟨A13, c13, rfl, -, hb13⟩
          simp only [noBt, List.length_nil]
          have v13 := v12.below hb13 v12.lt
          have b13 := b12.trans (hb13.mono b12.size)
          have sa13 := (sa12.below hb13).up hb13.size
          clear v12 b12 sa12 hb13
          obtain ⟨W14, hW14⟩ : ∃ W14, W14 = W13.alloc (.cells #[.int .i64 0, .int .i64 0, .int .i64 0, .bool false, .slice A13 0 c13] 24) := ⟨_, rfl⟩
          have v14 : Var W14 w.heap.size 24 #[.int .i64 pid, .int .i64 ep, .int .i64 sq, .bool tx, .slice A n c] := by rw [hW14]; exact v13.alloc _
          have b14 : Below w.heap.size w W14 := by rw [hW14]; exact b13.alloc b13.size _
          have sa14 : Seen W14 W14.heap.size A (rcells rs) := by rw [hW14]; exact (sa13.below (below_new _)).up (by simp)
          have HW14 := Lib.hid hW14
          clear hW14
          obtain ⟨d0, d1, d2, d3, d4, f1⟩ := v13.cells5
          have l13 := v13.lt
          obtain ⟨o, ho1, ho2, ho40⟩ := mask_of off hoff.2
          have hgs : 0 ≤ sq ∧ sq + n ≤ 1048576 := by have h := HG.out.2.2.2.1; simp only [LA.out] at h; exact h
          obtain ⟨hs1, hs2⟩ := hgs
          by_cases hof : 0 ≤ off
          all_goals
            first
              | (have hbit := ho1 hof)
              | (have hbit := ho2 hof)
            clear ho1 ho2
            go_wp2_with fail
            rw [← HW14.out]
            clear d0 d1 d2 d3 d4 f1 l13
            refine (rows_any A n c _ rs pid ep sq o tx W14 LA.out sa14 (Nat.le_refl _) hn60 ZA.out).mono ?_
            rintro e W15 ⟨A15, c15, rfl, sr15, hc15, hb15⟩
            have v15 := v14.below hb15 v14.lt
            have b15 := b14.trans (hb15.mono b14.size)
            have sa15 := (sa14.below hb15).up hb15.size
            obtain ⟨d0, d1, d2, d3, d4, f1⟩ := v15.cells5
            have l15 := v15.lt
            have y0 : ((70 : Int) != 70) = false := by decide
            have y1 : ((n : Int) != (n : Int)) = false := by simp
            go_wp2_with fail
            clear d0 d1 d2 d3 d4 f1 l15 y0 y1 v14 b14 sa14 hb15
            go_loopw [22] (fun i wr => ∃ (j : Nat), j ≤ n ∧ i = .int .i64 j ∧ Below W15.heap.size W15 wr) (fun i _ => n - (intOf i).toNat)
            case atStart => exact ⟨0, by omega, rfl, Below.refl _ _⟩
            case round =>
              obtain ⟨j, hj, rfl, hbw⟩ := hrel
              have vr := v15.below hbw v15.lt
              have bf := b15.trans (hbw.mono b15.size)
              have sar := sa15.below hbw
              have srr := sr15.below hbw
              by_cases hlt : j < n
              · obtain ⟨r, hr⟩ := rec_here LA.out hlt
                obtain ⟨bb, oo, rfl, hbb, p0, p1⟩ := rec_at sar hr
                obtain ⟨br, orr, rfl, hbr, q0, q1, q2, q3, q4⟩ := row_at srr (rowsOf_at (b := ⟨pid, ep, sq, tx, rs⟩) (off := (o : Int)) hr)
                obtain ⟨d0, d1, d2, d3, d4, f1⟩ := vr.cells5
                have lr := vr.lt
                have hw1 : bb < wr.heap.size := Nat.lt_of_lt_of_le hbb hbw.size
                have hw2 : br < wr.heap.size := Nat.lt_of_lt_of_le hbr hbw.size
                obtain ⟨rk, rv⟩ := r
                simp only [rowOf] at p0 p1 q0 q1 q2 q3 q4
                rw [if_neg (by omega), show wrap64 ((o : Int) + (j : Int)) = (o : Int) + (j : Int) by unfold wrap64; omega] at q0
                rw [show wrap64 (sq + (j : Int)) = sq + (j : Int) by unfold wrap64; omega] at q2
                have t0 : (rk.toList == rk.toList) = true := by simp
                have t1 : (rv.toList == rv.toList) = true := by simp
                have t2 : (pid != pid) = false := by simp
                have t3 : ((sq + (j : Int)) != (sq + (j : Int))) = false := by simp
                have t4 : (((o : Int) + (j : Int)) != ((o : Int) + (j : Int))) = false := by simp
                have i1 : (j : Int) < (n : Int) := by omega
                have i2 : (n : Int) ≤ 60 := by omega
                clear hr d1 d3
                go_wp2_with fail
                go_quiet (fail)
                go_wp2
                go_roundw
                case rel => exact ⟨j + 1, by omega, by go_num, hbw.drewN' _⟩
                case measure => simp [intOf]; omega
              · have HH1 : Hid (∀ x : After wr, Calls Try.prog 15 #[.agg #[.int .i64 pid, .int .i64 ep, .int .i64 sq, .bool tx, .slice A n c]] x.val fun e w' => e = .returned (.int .i64 (sq + n)) ∧ ∃ y : After wr, w' = y.val) :=
                  fun x => Calls.after (behind_any A n c pid ep sq _ tx x.val (by unfold wrap64; omega))
                have ha0 := fun (x : After wr) => (five_after vr x).1
                have ha1 := fun (x : After wr) => (five_after vr x).2.1
                have ha2 := fun (x : After wr) => (five_after vr x).2.2.1
                have ha3 := fun (x : After wr) => (five_after vr x).2.2.2.1
                have ha4 := fun (x : After wr) => (five_after vr x).2.2.2.2
                have t3 : ((sq + (n : Int)) == (sq + (n : Int))) = true := beq_self_eq_true _
                have i2 : (n : Int) ≤ 60 := by omega
                go_wp2_with fail
                refine wp_region_after (by kernel_rfl) (by kernel_rfl) ?_
                repeat (go_big_quiet_step ((first
                  | (go_at_call 15; with_reducible exact HH1.out _)
                  | (go_at_call 8; exact Calls.after (wakes_any _)))))
                refine wpQuiet_nil ?_
                rintro _ ⟨y, rfl⟩
                have hfin := bf.trans (y.below.mono bf.size)
                clear ha0 ha1 ha2 ha3 ha4 HH1
                go_wp2
                go_ret
                exact ⟨rfl, hfin⟩
        · obtain ⟨rfl, rfl⟩ : ⟨#[]⟩ = bs ∧ 2 = fr := by
            rcases HBS.out with ⟨h, _⟩ | ⟨_, h, h'⟩
            · exact absurd h hg
            · exact ⟨h.symm, h'.symm⟩
          have y0 : ((2 : Int) != 0) = true := by decide
          clear HBS
          go_wp2_with fail
          refine (may_any A n c _ rs pid ep sq tx false W6 LA.out ⟨by simp, fun h => absurd h hg⟩ sa6 b6.size ma ZA.out).mono ?_
          rintro e W7 ⟨rfl, hb7⟩
          have b7 := b6.trans (hb7.mono b6.size)
          go_wp2_with fail
          refine (wakes_any _).mono ?_
          rintro e w9 ⟨rfl, hb9⟩
          have b9 := b7.trans (hb9.mono b7.size)
          go_wp2
          go_ret
          exact ⟨rfl, b9⟩
end Go.Proofs.Ytiilbcficgpohaa
