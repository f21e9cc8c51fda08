/-
  The contract of the document's Take: what it returns and what it does to memory. Conditions: those that the theorem names.
-/
import Derived.Test.YtfcifblbapadpaaGreatDoorRecTake
import Derived.Test.YtfcifblbapadpaaGreatDoorRecMayR
namespace Go.Proofs.YtfcifblbapadpaaGreatDoor
open Go.RowKit

set_option maxRecDepth 100000 in
set_option maxHeartbeats 4000000 in
theorem ref_take_any (g : Nat) (s : ByteArray) (p : Nat) (bad : Bool) (b : Bt) (pz : Nat) (badz : Bool) (w : World) (h : TakeIs s p bad b pz badz) (hr : Rd 47 w g s p bad) (hx : s.size ≤ 1000000) (hp : p ≤ s.size) :
    Calls Tryz.prog 27 #[.pointer (some ⟨g, 0, none⟩)] w (TakeRes 47 g s w b pz badz) := by
  obtain ⟨y, p', bad', hraw, hpz, hcase⟩ := h
  rw [hpz]
  clear hpz
  have HC := Lib.hid hcase
  have hsm := hraw.small
  clear hcase
  obtain ⟨p1, b1, p2, b2, p3, b3, p4, b4, n, p5, b5, h1, h2, h3, h4, h5, h6⟩ := hraw
  have hn0 := h5.in (by omega)
  obtain ⟨m, rfl⟩ : ∃ m : Nat, n = m := ⟨n.toNat, by omega⟩
  rw [Int.toNat_natCast] at h6
  have hm4 : m ≤ 4 := by omega
  have hl := RecsIs.length _ h6
  obtain ⟨pid, ep, sq, tx, rs⟩ := y
  simp only at hsm
  obtain ⟨-, -, -, hl4, hgood⟩ := hsm
  have HSZ : Hid (∀ r ∈ rs, r.k.size ≤ 9223372036854775807 ∧ r.v.size ≤ 9223372036854775807) := fun r hr => by have := hgood r hr; unfold Rc.Good at this; omega
  clear hgood
  simp only at h1 h2 h3 h4 h6 hl
  have q1 := h1.le hp
  have q2 := h2.le q1
  have q3 := h3.le q2
  have q4 := h4.le q3
  have q5 := h5.le q4
  have H1 := Lib.hid h1
  have H2 := Lib.hid h2
  have H3 := Lib.hid h3
  have H4 := Lib.hid h4
  have H5 := Lib.hid h5
  have H6 := Lib.hid h6
  have HL := Lib.hid hl
  clear h1 h2 h3 h4 h5 h6 hl hn0
  go_enter Tryz.func27, Tryz.ntmps27
  go_wp2_with fail
  have hgw : g < w.heap.size := Var.lt hr
  obtain ⟨W1, hW1⟩ : ∃ W1, W1 = w.alloc (.cells #[.int .i64 0, .int .i64 0, .int .i64 0, .bool false, .slice none 0 0] 27) := ⟨_, rfl⟩
  have v1 : Var W1 w.heap.size 27 #[.int .i64 0, .int .i64 0, .int .i64 0, .bool false, .slice none 0 0] := by rw [hW1]; exact Var.new _ _ _
  have r1 : Rd 47 W1 g s p bad := by rw [hW1]; exact Var.alloc hr _
  have k1 : Kept [g] w W1 := by rw [hW1]; exact (Kept.refl _ _).alloc _
  rw [← hW1]
  clear hW1 hr
  refine (ref_number_all g s p W1 bad 1 8 pid p1 b1 H1.out r1 hx hp).mono ?_
  rintro e W2 ⟨rfl, r2, k2⟩
  have v2 := v1.kept k2 (by simp; omega)
  have kk2 := k1.trans k2
  clear r1 k1 v1 k2
  go_wp2_with fail
  refine (ref_number_all g s p1 W2 b1 0 100 ep p2 b2 H2.out r2 hx q1).mono ?_
  rintro e W3 ⟨rfl, r3, k3⟩
  have v3 := v2.kept k3 (by simp; omega)
  have kk3 := kk2.trans k3
  clear r2 kk2 v2 k3
  go_wp2_with fail
  refine (ref_number_all g s p2 W3 b2 0 1048576 sq p3 b3 H3.out r3 hx q2).mono ?_
  rintro e W4 ⟨rfl, r4, k4⟩
  have v4 := v3.kept k4 (by simp; omega)
  have kk4 := kk3.trans k4
  clear r3 kk3 v3 k4
  go_wp2_with fail
  refine (ref_flag_all g s p3 W4 b3 tx p4 b4 H4.out r4 hx).mono ?_
  rintro e W5 ⟨rfl, r5, k5⟩
  have v5 := v4.kept k5 (by simp; omega)
  have kk5 := kk4.trans k5
  clear r4 kk4 v4 k5
  go_wp2_with fail
  have hz5 : w.heap.size ≤ W5.heap.size := kk5.size
  obtain ⟨W6, hW6⟩ : ∃ W6, W6 = W5.alloc (.cells #[.int .i64 pid, .int .i64 ep, .int .i64 sq, .bool tx, .slice none 0 0] 27) := ⟨_, rfl⟩
  obtain ⟨x, hxx⟩ : ∃ x, x = W5.heap.size := ⟨_, rfl⟩
  have st6 : RSt 47 w W6 g x s p4 b4 pid ep sq tx none 0 0 [] := by
    rw [hW6, hxx]
    exact ⟨Var.alloc r5 _, Var.new _ _ _, World.ownsRow_nil _ _ _ _, v5.alloc _, kk5.alloc _, hgw, v5.lt⟩
  rw [← hW6, ← hxx]
  clear hW6 hxx r5 kk5 v5 hz5
  refine (ref_number_all g s p4 W6 b4 1 4 m p5 b5 H5.out st6.rd hx q4).mono ?_
  rintro e W7 ⟨rfl, r7, k7⟩
  have st7 := st6.read r7 k7
  clear st6 r7 k7
  go_wp2_with fail
  go_loopw [5] (fun i wr => ∃ (k pk ck : Nat) (bk : Bool) (Ak : Option Addr) (done rest : List Rc), k ≤ m ∧ i = .int .i64 k ∧ pk ≤ s.size ∧ RSt 47 w wr g x s pk bk pid ep sq tx Ak k ck done ∧ Hid (RecsIs s (m - k) pk bk rest p' bad') ∧ Hid (rs = done ++ rest)) (fun i _ => m - (intOf i).toNat)
  case atStart => exact ⟨0, p5, 0, b5, none, [], rs, by omega, rfl, q5, st7, H6.out, rfl⟩
  case round =>
    clear st7
    obtain ⟨k, pk, ck, bk, Ak, done, rest, hk, rfl, hpk, st, HR, HD⟩ := hrel
    by_cases hlt : k < m
    · obtain ⟨j, hj⟩ : ∃ j, m - k = j + 1 := ⟨m - k - 1, by omega⟩
      have hrec := HR.out
      rw [hj] at hrec
      obtain ⟨rk, pa, ba, rv, pb, bb, rest2, t1, t2, hrr, hrest⟩ := hrec
      have T1 := Lib.hid t1
      have T2 := Lib.hid t2
      have HREST : Hid (RecsIs s (m - (k + 1)) pb bb rest2 p' bad') := by show RecsIs _ _ _ _ _ _ _; rw [show m - (k + 1) = j by omega]; exact hrest
      have HD2 : Hid (rs = (done ++ [⟨rk, rv⟩]) ++ rest2) := by show _ = _; rw [HD.out, hrr]; simp
      have hpa := t1.le hpk
      have hpb := t2.le hpa
      clear hrest t1 t2 hrr hj HR HD
      obtain ⟨d0, d1, d2, d3, d4, f1⟩ := st.v.cells5
      have hxr := st.v.lt
      have hgx : g < x := by have := st.hg; have := st.hx; omega
      clear d0 d1 d2 d3
      go_wp2_with fail
      go_region_law (first
        | (refine step_append_one rfl (.tmp 23) (.tmp 29) rfl Tryz.underlying25 rec_info0 rfl (by omega) (by omega) (base := x + 1) (n := k) (c := 1) (B := w6.heap.size + 1) (v := .slice Ak k ck) (xs := rcells done) (news := rcell ⟨rk, rv⟩) (A := some ⟨w6.heap.size, 0, none⟩) rfl rfl (st6.next (below_new _)).own rfl (fun u hu => rcells_one [_] u (by simpa [rcells] using hu)) (seen_rec _ ⟨rk, rv⟩ _ _ rfl) (by simp; omega) (by omega) ?_; intro A9 c9 w9 hown9 hb9; have v9 := (st6.next (below_new (.cells #[.string rk, .string rv] 71))).v.below hb9 (Nat.lt_succ_self x); obtain ⟨i0, i1, i2, i3, i4, f9⟩ := v9.cells5)
        | (go_simp; go_at_call 15; first
          | (refine (ref_text_all g s pk _ bk 16 rk pa ba T1.out st.drew.rd hx hpk).mono ?_; rintro e w5 ⟨rfl, r5, k5⟩; have st5 : RSt 47 w w5 g x s pa ba pid ep sq tx Ak k ck done := (st.drew.read r5 k5); obtain ⟨e0, e1, e2, e3, e4, f5⟩ := st5.v.cells5; have hx5 := st5.v.lt; dsimp only)
          | (refine (ref_text_all g s pa _ ba 16 rv pb bb T2.out st5.rd hx hpa).mono ?_; rintro e w6 ⟨rfl, r6, k6⟩; have st6 := st5.read r6 k6; obtain ⟨g0, g1, g2, g3, g4, f6⟩ := st6.v.cells5; have hx6 := st6.v.lt; dsimp only)))
      all_goals
        have st10 := st6.push hb9 hown9
        obtain ⟨W10, hW10⟩ : ∃ W10, W10 = w9.setCell ⟨x, 4, none⟩ (.slice A9 (k + 1) c9) := ⟨_, rfl⟩
        rw [← hW10] at st10 ⊢
        clear hW10 st5 st6 hown9 hb9 v9 i0 i1 i2 i3 i4 f9 g0 g1 g2 g3 g4 f6 e0 e1 e2 e3 e4 f5 r5 k5 r6 k6 st d4 f1
        go_wp2
        go_roundw
        case rel => exact ⟨k + 1, pb, c9, bb, A9, done ++ [⟨rk, rv⟩], rest2, by omega, by go_num, hpb, st10, HREST, HD2⟩
        case measure => simp [intOf]; omega
    · have hkm : k = m := by omega
      subst hkm
      have hrec := HR.out
      rw [Nat.sub_self] at hrec
      obtain ⟨rfl, rfl, rfl⟩ := hrec
      have HD3 : Hid (rs = done) := by show _ = _; rw [HD.out]; simp
      have hxr := st.v.lt
      have hwr := st.res.lt
      have hgr : g < wr.heap.size := Var.lt st.rd
      obtain ⟨d0, d1, d2, d3, d4, f1⟩ := st.v.cells5
      obtain ⟨g0, g1, g2⟩ := Rd.cells st.rd
      have hd := HD3.out
      subst hd
      have hln := HL.out
      have t3 : TFin 47 w wr g s p' bad' Ak k ck rs := ⟨st.rd, own_down st.own (by have := st.hx; omega), st.kept, st.hg⟩
      have v3 := st.res
      have HLN := Lib.hid hln
      have hm := fun m hm => ref_may_any Ak k ck wr.heap.size rs pid ep sq tx m wr hln hm (by obtain ⟨A', c', he, hs, _⟩ := own_formN st.own; injection he with h1 _ _; rw [h1]; exact hs) (Nat.le_refl _) (by omega) HSZ.out
      have HM := Lib.hid hm
      clear HR HD HD3 hm hln
      cases bad' with
      | true =>
        obtain ⟨rfl, rfl⟩ : noBt = b ∧ true = badz := by
          rcases HC.out with ⟨h, _⟩ | ⟨_, h, h'⟩
          · cases h
          · exact ⟨h.symm, h'.symm⟩
        have hgd := st.rd
        clear HC HM st
        go_wp2_with fail
        refine (ref_wrong g s p' true wr hgd).mono ?_
        rintro e W5 ⟨rfl, r5, k5⟩
        have t5 := t3.read r5 k5
        have v5 := v3.kept k5 (by simp; omega)
        clear d0 d1 d2 d3 d4 f1 g0 g1 g2
        obtain ⟨d0, d1, d2, d3, d4, f1⟩ := v5.cells5
        have l1 := v5.lt
        have hfin := t5.zero.five (.int .i64 0) (.int .i64 0) (.int .i64 0) (.bool false) (.slice none 0 0)
        clear t3 t5 v3 r5 k5
        go_wp2
        refine bodyPost_ret (v := .agg #[.int .i64 0, .int .i64 0, .int .i64 0, .bool false, .slice none 0 0]) (by simp [results, Tryz.results27, go_sem, d0, d1, d2, d3, d4]) rfl ?_
        exact ⟨none, 0, rfl, hfin.out⟩
      | false =>
        by_cases hg : Bt.Good ⟨pid, ep, sq, tx, rs⟩
        · obtain rfl : false = badz := by
            rcases HC.out with ⟨_, _, _, h⟩ | ⟨h | h, _⟩
            · exact h.symm
            · cases h
            · exact absurd hg h
          have HB : Hid (b = ⟨pid, ep, sq, tx, rs⟩) := by
            rcases HC.out with ⟨_, _, h, _⟩ | ⟨h | h, _⟩
            · exact h
            · cases h
            · exact absurd hg h
          have b3 := st.v
          clear HC st
          go_wp2_with fail
          refine (HM.out true ⟨fun _ => hg, fun _ => rfl⟩).mono ?_
          rintro e W4 ⟨rfl, hb4⟩
          have t4 := t3.next hb4
          have v4 := v3.below hb4 v3.lt
          have b4 := b3.below hb4 b3.lt
          clear d0 d1 d2 d3 d4 f1 g0 g1 g2
          obtain ⟨d0, d1, d2, d3, d4, f1⟩ := v4.cells5
          obtain ⟨e0, e1, e2, e3, e4, f2⟩ := b4.cells5
          have l1 := v4.lt
          have l2 := b4.lt
          have hfin := t4.five (.int .i64 pid) (.int .i64 ep) (.int .i64 sq) (.bool tx) (.slice Ak k ck)
          clear t3 v3 b3 hb4 HM t4
          go_wp2
          refine bodyPost_ret (v := .agg #[.int .i64 pid, .int .i64 ep, .int .i64 sq, .bool tx, .slice Ak k ck]) (by simp [results, Tryz.results27, go_sem, d0, d1, d2, d3, d4]) rfl ?_
          rw [HB.out]
          have hnn := HLN.out
          exact ⟨Ak, ck, by simp only; rw [hnn], by simp only; rw [hnn]; exact hfin.out⟩
        · obtain ⟨rfl, rfl⟩ : noBt = b ∧ true = badz := by
            rcases HC.out with ⟨_, h, _⟩ | ⟨_, h, h'⟩
            · exact absurd h hg
            · exact ⟨h.symm, h'.symm⟩
          clear HC st
          go_wp2_with fail
          refine (HM.out false ⟨by simp, fun h => absurd h hg⟩).mono ?_
          rintro e W4 ⟨rfl, hb4⟩
          have t4 := t3.next hb4
          have v4 := v3.below hb4 v3.lt
          clear d0 d1 d2 d3 d4 f1 g0 g1 g2 hb4 t3 v3 HM
          go_wp2_with fail
          refine (ref_wrong g s p' false W4 t4.1).mono ?_
          rintro e W5 ⟨rfl, r5, k5⟩
          have t5 := t4.read r5 k5
          have v5 := v4.kept k5 (by simp; omega)
          obtain ⟨d0, d1, d2, d3, d4, f1⟩ := v5.cells5
          have l1 := v5.lt
          have hfin := t5.zero.five (.int .i64 0) (.int .i64 0) (.int .i64 0) (.bool false) (.slice none 0 0)
          clear t4 t5 v4 r5 k5
          go_wp2
          refine bodyPost_ret (v := .agg #[.int .i64 0, .int .i64 0, .int .i64 0, .bool false, .slice none 0 0]) (by simp [results, Tryz.results27, go_sem, d0, d1, d2, d3, d4]) rfl ?_
          exact ⟨none, 0, rfl, hfin.out⟩
end Go.Proofs.YtfcifblbapadpaaGreatDoor
