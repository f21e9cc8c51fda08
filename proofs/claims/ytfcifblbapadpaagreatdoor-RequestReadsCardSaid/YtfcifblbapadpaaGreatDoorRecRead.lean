/-
  The contract of record's read: what it returns and what it does to memory. Conditions: those that each theorem names.
-/
import Derived.Test.YtfcifblbapadpaaGreatDoorRecApp
import Derived.Deep.RegionLaw
namespace Go.Proofs.YtfcifblbapadpaaGreatDoor
open Go.RowKit

theorem own_kept {w w' : World} {S : List Nat} {base e n size : Nat} {v : Value} {xs : List Value} (h : w.ownsRow base e size v n xs) (hk : Kept S w w') (hS : ∀ x ∈ S, x < base) : w'.ownsRow base e size v n xs := by
  refine ⟨h.1, ?_⟩
  rcases h.2 with h0 | ⟨g, cap, cur, hv, hbg, hg, hr⟩
  · exact .inl h0
  · exact .inr ⟨g, cap, cur, hv, hbg, hk.heap hg (fun hm => by have := hS g hm; omega), hr⟩
theorem own_set {w : World} {base e n size : Nat} {v : Value} {xs : List Value} (h : w.ownsRow base e size v n xs) {p : Addr} (hp : p.block < base) (u : Value) : (w.setCell p u).ownsRow base e size v n xs := by
  refine ⟨h.1, ?_⟩
  rcases h.2 with h0 | ⟨g, cap, cur, hv, hb, hg, hr⟩
  · exact .inl h0
  · exact .inr ⟨g, cap, cur, hv, hb, (Below.heap_setCell _ _ _ _ (by omega)).trans hg, hr⟩
theorem rec_info0 : (Tryz.prog.info? 71).map (fun i => (i.zero, i.size, i.bytes)) = some (some (.agg #[.string { data := #[] }, .string { data := #[] }]), 2, 32) := by kernel_rfl

/-- The reading of records, under way: the reader, the batch's variable in block x, the records so far, the result's variable. -/
structure RSt (T : TypeId) (w wr : World) (g x : Nat) (s : ByteArray) (p : Nat) (bad : Bool) (pid ep sq : Int) (tx : Bool) (A : Option Addr) (k c : Nat) (rs : List Rc) : Prop where
  rd : Rd T wr g s p bad
  v : Var wr x 27 #[.int .i64 pid, .int .i64 ep, .int .i64 sq, .bool tx, .slice A k c]
  own : wr.ownsRow (x + 1) 71 2 (.slice A k c) k (rcells rs)
  res : Var wr w.heap.size 27 #[.int .i64 0, .int .i64 0, .int .i64 0, .bool false, .slice none 0 0]
  kept : Kept [g] w wr
  hg : g < w.heap.size
  hx : w.heap.size < x
section
variable {T : TypeId} {w wr w' : World} {g x : Nat} {s : ByteArray} {p p' : Nat} {bad bad' : Bool} {pid ep sq : Int} {tx : Bool} {A A' : Option Addr} {k c c' : Nat} {rs : List Rc}
theorem RSt.read (h : RSt T w wr g x s p bad pid ep sq tx A k c rs) (hr : Rd T w' g s p' bad') (hk : Kept [g] wr w') : RSt T w w' g x s p' bad' pid ep sq tx A k c rs :=
  ⟨hr, h.v.kept hk (by have := h.hg; have := h.hx; simp; omega), own_kept h.own hk (by have := h.hg; have := h.hx; simp; omega), h.res.kept hk (by have := h.hg; simp; omega), h.kept.trans hk, h.hg, h.hx⟩
theorem RSt.drew (h : RSt T w wr g x s p bad pid ep sq tx A k c rs) : RSt T w wr.drew g x s p bad pid ep sq tx A k c rs := ⟨h.rd, h.v, h.own, h.res, h.kept.drew, h.hg, h.hx⟩
theorem RSt.next (h : RSt T w wr g x s p bad pid ep sq tx A k c rs) (hb : Below wr.heap.size wr w') : RSt T w w' g x s p bad pid ep sq tx A k c rs :=
  ⟨Var.below h.rd hb (Var.lt h.rd), h.v.below hb h.v.lt, own_next h.own hb, h.res.below hb h.res.lt, h.kept.trans (Kept.of_below hb), h.hg, h.hx⟩
theorem kept_low {S : List Nat} {a b c : World} {B : Nat} (h : Kept S a b) (hb : Below B b c) (hB : a.heap.size ≤ B) : Kept S a c :=
  ⟨hb.os.trans h.os, hb.tape.trans h.tape, hb.output.trans h.output, Nat.le_trans h.size hb.size, fun i hi hn => (hb.block i (by omega)).trans (h.block i hi hn)⟩
/-- One record more. -/
theorem RSt.push (h : RSt T w wr g x s p bad pid ep sq tx A k c rs) {o : Obj} (hb : Below (x + 1) (wr.alloc o) w') {r : Rc} (hown : w'.ownsRow (x + 1) 71 2 (.slice A' (k + 1) c') (k + 1) (rcells rs ++ rcell r)) :
    RSt T w (w'.setCell ⟨x, 4, none⟩ (.slice A' (k + 1) c')) g x s p bad pid ep sq tx A' (k + 1) c' (rs ++ [r]) := by
  have h1 := h.next (below_new o)
  have e1 := h.hg
  have e2 := h.hx
  refine ⟨?_, ?_, ?_, ?_, ?_, h.hg, h.hx⟩
  · exact Var.other (Var.below h1.rd hb (by omega)) _ _ (by omega)
  · exact Var.set (Var.below h1.v hb (by omega)) 4 _
  · rw [rcells_append]
    exact own_set (by simpa [rcells] using hown) (Nat.lt_succ_self x) _
  · exact Var.other (Var.below h1.res hb (by omega)) _ _ (by omega)
  · exact (kept_low h1.kept hb (by omega)).setCell (.inr (by simp; omega)) _
/-- What is left of it when the result is stored. -/
def RFin (T : TypeId) (w wr : World) (g x : Nat) (s : ByteArray) (p : Nat) (bad : Bool) (A : Option Addr) (k c : Nat) (rs : List Rc) : Prop :=
  Rd T wr g s p bad ∧ wr.ownsRow (x + 1) 71 2 (.slice A k c) k (rcells rs) ∧ Kept [g] w wr ∧ g < w.heap.size ∧ w.heap.size < x
theorem RSt.fin (h : RSt T w wr g x s p bad pid ep sq tx A k c rs) : RFin T w wr g x s p bad A k c rs := ⟨h.rd, h.own, h.kept, h.hg, h.hx⟩
theorem RFin.set (h : RFin T w wr g x s p bad A k c rs) (j : Nat) (u : Value) : RFin T w (wr.setCell ⟨w.heap.size, j, none⟩ u) g x s p bad A k c rs := by
  obtain ⟨h1, h2, h3, h4, h5⟩ := h
  exact ⟨Var.other h1 _ _ (by omega), own_set h2 (show w.heap.size < x + 1 by omega) _, h3.setCell (.inr (Nat.le_refl _)) _, h4, h5⟩
theorem RFin.out (h : RFin T w wr g x s p bad A k c rs) : Rd T wr g s p bad ∧ wr.ownsRow w.heap.size 71 2 (.slice A k c) k (rcells rs) ∧ Kept [g] w wr := ⟨h.1, own_down h.2.1 (by have := h.2.2.2.2; omega), h.2.2.1⟩
end

set_option maxRecDepth 100000 in
set_option maxHeartbeats 2000000 in
theorem rec_read (g : Nat) (s : ByteArray) (p : Nat) (bad : Bool) (b : Bt) (p' : Nat) (bad' : Bool) (w : World) (h : RawIs s p bad b p' bad') (hr : Rd 78 w g s p bad) (hx : s.size ≤ 1000000) (hp : p ≤ s.size) :
    Calls Tryz.prog 84 #[.func (.func 56) #[.pointer (some ⟨g, 0, none⟩)] #[], .func (.func 60) #[.pointer (some ⟨g, 0, none⟩)] #[], .func (.func 61) #[.pointer (some ⟨g, 0, none⟩)] #[]] w fun e w' =>
      ∃ A c, e = .returned (.agg #[.int .i64 b.pid, .int .i64 b.ep, .int .i64 b.sq, .bool b.tx, .slice A b.rs.length c]) ∧ Rd 78 w' g s p' bad' ∧ w'.ownsRow w.heap.size 71 2 (.slice A b.rs.length c) b.rs.length (rcells b.rs) ∧ Kept [g] w w' := by
  obtain ⟨p1, b1, p2, b2, p3, b3, p4, b4, n, p5, b5, h1, h2, h3, h4, h5, h6⟩ := h
  have hn0 := h5.in (by omega)
  obtain ⟨m, rfl⟩ : ∃ m : Nat, n = m := ⟨n.toNat, by omega⟩
  rw [Int.toNat_natCast] at h6
  have hm4 : m ≤ 4 := by omega
  have hl := RecsIs.length _ h6
  obtain ⟨pid, ep, sq, tx, rs⟩ := b
  simp only at h1 h2 h3 h4 h6 hl ⊢
  have q1 := h1.le hp
  have q2 := h2.le q1
  have q3 := h3.le q2
  have q4 := h4.le q3
  have q5 := h5.le q4
  have H1 := Lib.hid h1
  have H2 := Lib.hid h2
  have H3 := Lib.hid h3
  have H4 := Lib.hid h4
  have H5 := Lib.hid h5
  have H6 := Lib.hid h6
  have HL := Lib.hid hl
  clear h1 h2 h3 h4 h5 h6 hl hn0
  go_enter Tryz.func84, Tryz.ntmps84
  go_wp2_with fail
  have hgw : g < w.heap.size := Var.lt hr
  obtain ⟨W1, hW1⟩ : ∃ W1, W1 = w.alloc (.cells #[.int .i64 0, .int .i64 0, .int .i64 0, .bool false, .slice none 0 0] 27) := ⟨_, rfl⟩
  have v1 : Var W1 w.heap.size 27 #[.int .i64 0, .int .i64 0, .int .i64 0, .bool false, .slice none 0 0] := by rw [hW1]; exact Var.new _ _ _
  have r1 : Rd 78 W1 g s p bad := by rw [hW1]; exact Var.alloc hr _
  have k1 : Kept [g] w W1 := by rw [hW1]; exact (Kept.refl _ _).alloc _
  rw [← hW1]
  clear hW1 hr
  refine (number_all g s p bad 1 8 pid p1 b1 W1 H1.out r1 hx hp).mono ?_
  rintro e W2 ⟨rfl, r2, k2⟩
  have v2 := v1.kept k2 (by simp; omega)
  have kk2 := k1.trans k2
  clear r1 k1 v1 k2
  go_wp2_with fail
  refine (number_all g s p1 b1 0 100 ep p2 b2 W2 H2.out r2 hx q1).mono ?_
  rintro e W3 ⟨rfl, r3, k3⟩
  have v3 := v2.kept k3 (by simp; omega)
  have kk3 := kk2.trans k3
  clear r2 kk2 v2 k3
  go_wp2_with fail
  refine (number_all g s p2 b2 0 1048576 sq p3 b3 W3 H3.out r3 hx q2).mono ?_
  rintro e W4 ⟨rfl, r4, k4⟩
  have v4 := v3.kept k4 (by simp; omega)
  have kk4 := kk3.trans k4
  clear r3 kk3 v3 k4
  go_wp2_with fail
  refine (flag_all g s p3 b3 tx p4 b4 W4 H4.out r4 hx).mono ?_
  rintro e W5 ⟨rfl, r5, k5⟩
  have v5 := v4.kept k5 (by simp; omega)
  have kk5 := kk4.trans k5
  clear r4 kk4 v4 k5
  go_wp2_with fail
  have hz5 : w.heap.size ≤ W5.heap.size := kk5.size
  obtain ⟨W6, hW6⟩ : ∃ W6, W6 = W5.alloc (.cells #[.int .i64 pid, .int .i64 ep, .int .i64 sq, .bool tx, .slice none 0 0] 27) := ⟨_, rfl⟩
  obtain ⟨x, hxx⟩ : ∃ x, x = W5.heap.size := ⟨_, rfl⟩
  have st6 : RSt 78 w W6 g x s p4 b4 pid ep sq tx none 0 0 [] := by
    rw [hW6, hxx]
    exact ⟨Var.alloc r5 _, Var.new _ _ _, World.ownsRow_nil _ _ _ _, v5.alloc _, kk5.alloc _, hgw, v5.lt⟩
  rw [← hW6, ← hxx]
  clear hW6 hxx r5 kk5 v5 hz5
  refine (number_all g s p4 b4 1 4 m p5 b5 W6 H5.out st6.rd hx q4).mono ?_
  rintro e W7 ⟨rfl, r7, k7⟩
  have st7 := st6.read r7 k7
  clear st6 r7 k7
  go_wp2_with fail
  go_loopw [19] (fun i wr => ∃ (k pk ck : Nat) (bk : Bool) (Ak : Option Addr) (done rest : List Rc), k ≤ m ∧ i = .int .i64 k ∧ pk ≤ s.size ∧ RSt 78 w wr g x s pk bk pid ep sq tx Ak k ck done ∧ Hid (RecsIs s (m - k) pk bk rest p' bad') ∧ Hid (rs = done ++ rest)) (fun i _ => m - (intOf i).toNat)
  case atStart => exact ⟨0, p5, 0, b5, none, [], rs, by omega, rfl, q5, st7, H6.out, rfl⟩
  case round =>
    clear st7
    obtain ⟨k, pk, ck, bk, Ak, done, rest, hk, rfl, hpk, st, HR, HD⟩ := hrel
    by_cases hlt : k < m
    · obtain ⟨j, hj⟩ : ∃ j, m - k = j + 1 := ⟨m - k - 1, by omega⟩
      have hrec := HR.out
      rw [hj] at hrec
      obtain ⟨rk, pa, ba, rv, pb, bb, rest2, t1, t2, hrr, hrest⟩ := hrec
      have T1 := Lib.hid t1
      have T2 := Lib.hid t2
      have HREST : Hid (RecsIs s (m - (k + 1)) pb bb rest2 p' bad') := by show RecsIs _ _ _ _ _ _ _; rw [show m - (k + 1) = j by omega]; exact hrest
      have HD2 : Hid (rs = (done ++ [⟨rk, rv⟩]) ++ rest2) := by show _ = _; rw [HD.out, hrr]; simp
      have hpa := t1.le hpk
      have hpb := t2.le hpa
      clear hrest t1 t2 hrr hj HR HD
      obtain ⟨d0, d1, d2, d3, d4, f1⟩ := st.v.cells5
      have hxr := st.v.lt
      have hgx : g < x := by have := st.hg; have := st.hx; omega
      clear d0 d1 d2 d3
      go_wp2_with fail
      go_region_law (first
        | (refine step_append_one rfl (.tmp 22) (.tmp 28) rfl Tryz.underlying25 rec_info0 rfl (by omega) (by omega) (base := x + 1) (n := k) (c := 1) (B := w6.heap.size + 1) (v := .slice Ak k ck) (xs := rcells done) (news := rcell ⟨rk, rv⟩) (A := some ⟨w6.heap.size, 0, none⟩) rfl rfl (st6.next (below_new _)).own rfl (fun u hu => rcells_one [_] u (by simpa [rcells] using hu)) (seen_rec _ ⟨rk, rv⟩ _ _ rfl) (by simp; omega) (by omega) ?_; intro A9 c9 w9 hown9 hb9; have v9 := (st6.next (below_new (.cells #[.string rk, .string rv] 71))).v.below hb9 (Nat.lt_succ_self x); obtain ⟨i0, i1, i2, i3, i4, f9⟩ := v9.cells5)
        | (go_simp; go_at_call 60; first
          | (refine (text_all g s pk bk 16 rk pa ba _ T1.out st.drew.rd hx hpk).mono ?_; rintro e w5 ⟨rfl, r5, k5⟩; have st5 : RSt 78 w w5 g x s pa ba pid ep sq tx Ak k ck done := (st.drew.read r5 k5); obtain ⟨e0, e1, e2, e3, e4, f5⟩ := st5.v.cells5; have hx5 := st5.v.lt; dsimp only)
          | (refine (text_all g s pa ba 16 rv pb bb _ T2.out st5.rd hx hpa).mono ?_; rintro e w6 ⟨rfl, r6, k6⟩; have st6 := st5.read r6 k6; obtain ⟨g0, g1, g2, g3, g4, f6⟩ := st6.v.cells5; have hx6 := st6.v.lt; dsimp only)))
      all_goals
        have st10 := st6.push hb9 hown9
        obtain ⟨W10, hW10⟩ : ∃ W10, W10 = w9.setCell ⟨x, 4, none⟩ (.slice A9 (k + 1) c9) := ⟨_, rfl⟩
        rw [← hW10] at st10 ⊢
        clear hW10 st5 st6 hown9 hb9 v9 i0 i1 i2 i3 i4 f9 g0 g1 g2 g3 g4 f6 e0 e1 e2 e3 e4 f5 r5 k5 r6 k6 st d4 f1
        go_wp2
        go_roundw
        case rel => exact ⟨k + 1, pb, c9, bb, A9, done ++ [⟨rk, rv⟩], rest2, by omega, by go_num, hpb, st10, HREST, HD2⟩
        case measure => simp [intOf]; omega
    · have hkm : k = m := by omega
      subst hkm
      have hrec := HR.out
      rw [Nat.sub_self] at hrec
      obtain ⟨rfl, rfl, rfl⟩ := hrec
      have HD3 : Hid (rs = done) := by show _ = _; rw [HD.out]; simp
      obtain ⟨d0, d1, d2, d3, d4, f1⟩ := st.v.cells5
      obtain ⟨e0, e1, e2, e3, e4, f5⟩ := st.res.cells5
      have hxr := st.v.lt
      have hwr := st.res.lt
      have hfin := ((((st.fin.set 0 (.int .i64 pid)).set 1 (.int .i64 ep)).set 2 (.int .i64 sq)).set 3 (.bool tx)).set 4 (.slice Ak k ck)
      clear HR HD st
      go_wp2
      refine bodyPost_ret (v := .agg #[.int .i64 pid, .int .i64 ep, .int .i64 sq, .bool tx, .slice Ak k ck]) (by simp [results, Tryz.results84, go_sem, e0, e1, e2, e3, e4]) rfl ?_
      have hd := HD3.out
      subst hd
      have hll := HL.out
      exact ⟨Ak, ck, by rw [hll], by rw [hll]; exact hfin.out⟩
end Go.Proofs.YtfcifblbapadpaaGreatDoor
