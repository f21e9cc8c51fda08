/-
  Contracts of the document's own Bytes and Changes of requests. Conditions: those that each theorem names.
-/
import Derived.Test.YtfcifblbapadpaaReqMayR
import Derived.Test.YtfcifblbapadpaaReqWakes
import Derived.Test.YtfcifblbapadpaaRecBytesR
namespace Go.Proofs.Ytfcifblbapadpaa
open Go.RowKit

section
variable {W0 wq : World} {ys : List UInt8} {A : Option Addr} {c ly : Nat}
set_option maxRecDepth 100000 in
theorem ref_qnumbers_any (l : List Nat) (A2 : Option Addr) (n c2 B : Nat) (h : Wrote W0 wq ys A c ly) (hn : l.length = n) (hs : Seen wq B A2 (icells l)) (hB : B ≤ wq.heap.size) (hl : ∀ x ∈ l, x ≤ 1099511627776) (h4 : n ≤ 5) (hy : ly ≤ 800) :
    Calls Try.prog 17 #[.slice A ly c, .slice A2 n c2] wq fun e w' => ∃ A' c' lx, e = .returned (.slice A' lx c') ∧ Wrote W0 w' (ys ++ encN l) A' c' lx ∧ lx ≤ ly + 6 * n := by
  have HN := Lib.hid hn
  have HL := Lib.hid hl
  have HW := Lib.hid h
  have h0 : Wrote wq wq ys A c ly := ⟨h.seen, h.len, h.cap, h.le, Below.refl _ _⟩
  clear hn hl h
  go_enter Try.func17, Try.ntmps17
  go_wp2_with fail
  go_loopw [0, 5] (fun sv i wr => ∃ (k : Nat) (A1 : Option Addr) (c1 lx : Nat), k ≤ n ∧ i = .int .i64 k ∧ sv = .slice A1 lx c1 ∧ Wrote wq wr (ys ++ encN (l.take k)) A1 c1 lx ∧ lx ≤ ly + 6 * k) (fun _ i _ => n - (intOf i).toNat)
  case atStart => exact ⟨0, A, c, ly, by omega, rfl, rfl, by simpa [encN] using h0, by omega⟩
  case round =>
    clear h0
    obtain ⟨k, A1, c1, lx, hk, rfl, rfl, hw, hlx⟩ := hrel
    by_cases hlt : k < n
    · obtain ⟨x, hx⟩ : ∃ x, l[k]? = some x := ⟨_, List.getElem?_eq_getElem (by have := HN.out; omega)⟩
      have hx20 := HL.out x (List.mem_of_getElem? hx)
      have HS := Lib.hid (encN_step hx)
      obtain ⟨b, off, rfl, hb, p0⟩ := icells_at (hs.below (hw.below.mono hB)) hx
      have hbw : b < wr.heap.size := by have := hw.below.size; omega
      clear hx
      go_wp2_with fail
      refine (ref_num_next hw x (by omega) (by omega)).mono ?_
      rintro e w3 ⟨A3, c3, l3, rfl, hw3, hl3, -⟩
      rw [List.append_assoc, ← HS.out] at hw3
      clear p0 hw
      go_wp2
      go_roundw
      case rel => exact ⟨k + 1, A3, c3, l3, by omega, by go_num, rfl, hw3, by omega⟩
      case measure => simp [intOf]; omega
    · have hkn : k = n := by omega
      subst hkn
      rw [List.take_of_length_le (by have := HN.out; omega)] at hw
      have hW := HW.out
      go_wp2
      go_ret
      exact ⟨A1, c1, lx, rfl, ⟨hw.seen, hw.len, hw.cap, hw.le, hW.below.trans (hw.below.mono hW.below.size)⟩, hlx⟩
theorem ref_qnumbers_new (l : List Nat) (n : Nat) (h : Wrote W0 wq ys A c ly) (hn : l.length = n) (hl : ∀ x ∈ l, x ≤ 1099511627776) (h4 : n ≤ 5) (hy : ly ≤ 800) :
    Calls Try.prog 17 #[.slice A ly c, .slice (some ⟨wq.heap.size, 0, none⟩) n n] (wq.alloc (.cells (icells l).toArray 3)) fun e w' => ∃ A' c' lx, e = .returned (.slice A' lx c') ∧ Wrote W0 w' (ys ++ encN l) A' c' lx ∧ lx ≤ ly + 6 * n := by
  have hb := below_new (w := wq) (.cells (icells l).toArray 3)
  refine ref_qnumbers_any l _ n n (wq.heap.size + 1) (h.next hb) hn (fun _ => ⟨wq.heap.size, 0, rfl, Nat.lt_succ_self _, fun j u hu => ?_⟩) (by rw [World.size_alloc]; exact Nat.le_refl _) hl h4 hy
  rw [Nat.zero_add]
  exact (Var.new wq (icells l).toArray 3).cell j (by simpa using hu)
end

theorem ref_qtext {W0 wq : World} {ys : List UInt8} {A : Option Addr} {c ly : Nat} (h : Wrote W0 wq ys A c ly) (s : ByteArray) (hs : s.size ≤ 160) (hl : ly ≤ 800) : Calls Try.prog 19 #[.slice A ly c, .string s] wq fun e w' =>
    ∃ A' c' lx, e = .returned (.tuple #[.slice A' lx c', .int .i64 0]) ∧ Wrote W0 w' (ys ++ (VP.enc s.size ++ bytesOf s)) A' c' lx ∧ lx ≤ ly + 166 := by
  have he := VP.enc_six (n := s.size) (by omega)
  have hlen : (ys ++ (VP.enc s.size ++ bytesOf s)).length ≤ ly + 166 := by rw [List.length_append, List.length_append, bytesOf_length, ← h.len]; omega
  refine (ref_text_put A c ys ly s _ 0 _ wq (.inl ⟨by omega, rfl, rfl⟩) h.len rfl h.seen (by omega)).mono ?_
  rintro e w3 ⟨A3, c3, rfl, hs3, hc3, hb3⟩
  exact ⟨A3, c3, _, rfl, h.step hs3 rfl hc3 (by omega) hb3, hlen⟩

theorem ref_changes_any (k : Int) (b : Bool) (w : World) (hb : b = true ↔ ¬ Asks k) : Calls Try.prog 14 #[.int .i8 k] w fun e w' => e = .returned (.bool b) ∧ w = w' := by
  have HB := Lib.hid hb
  clear hb
  unfold Asks at HB
  by_cases h1 : 0 ≤ k
  · have d1 : decide (0 ≤ k) = true := decide_eq_true h1
    by_cases h2 : k ≤ 9
    · have d2 : decide (k ≤ 9) = true := decide_eq_true h2
      by_cases h3 : k = 5
      · subst h3
        obtain rfl : b = false := bool_off HB.out (by omega)
        clear HB
        go_enter Try.func14, Try.ntmps14
        go_wp2
        go_ret
        exact ⟨rfl, rfl⟩
      · have d3 : (k != 5) = true := by simp [h3]
        by_cases h4 : k = 7
        · subst h4
          obtain rfl : b = false := bool_off HB.out (by omega)
          clear HB
          go_enter Try.func14, Try.ntmps14
          go_wp2
          go_ret
          exact ⟨rfl, rfl⟩
        · have d4 : (k != 7) = true := by simp [h4]
          obtain rfl : b = true := HB.out.2 (by omega)
          clear HB
          go_enter Try.func14, Try.ntmps14
          go_wp2
          go_ret
          exact ⟨rfl, rfl⟩
    · have d2 : decide (k ≤ 9) = false := decide_eq_false h2
      obtain rfl : b = false := bool_off HB.out (by omega)
      clear HB
      go_enter Try.func14, Try.ntmps14
      go_wp2
      go_ret
      exact ⟨rfl, rfl⟩
  · have d1 : decide (0 ≤ k) = false := decide_eq_false h1
    obtain rfl : b = false := bool_off HB.out (by omega)
    clear HB
    go_enter Try.func14, Try.ntmps14
    go_wp2
    go_ret
    exact ⟨rfl, rfl⟩


set_option maxRecDepth 100000 in
set_option maxHeartbeats 8000000 in
theorem ref_qbytes_any (x : Rq) (A : Option Addr) (n c B : Nat) (ys : List UInt8) (er : Int) (w : World) (hx : QIn w B x A n c) (hB : B ≤ w.heap.size) (hy : YIs x ys er) :
    Calls Try.prog 8 #[.agg (qvals x A n c)] w (BRes ys er w) := by
  obtain ⟨q, hq⟩ := iff_of' x.Good
  obtain ⟨W0, hW0⟩ : ∃ W0, W0 = w.alloc (.cells (qvals x A n c) 27) := ⟨_, rfl⟩
  have v0 : Var W0 w.heap.size 27 (qvals x A n c) := by rw [hW0]; exact Var.new _ _ _
  have b0 : Below w.heap.size w W0 := by rw [hW0]; exact below_new _
  have x0 := hx.below (b0.mono hB)
  have hB0 := Nat.le_trans hB b0.size
  have HY := Lib.hid hy
  have HQ := Lib.hid hq
  obtain ⟨kind, tid, timeout, pid, ep, part, group, off, most, yes, ⟨bp, be, bs, bt, rs⟩⟩ := x
  simp only [qvals] at hW0 v0 ⊢
  have HW0 := Lib.hid hW0
  clear hW0 hx hy hq
  go_enter Try.func8, Try.ntmps8
  go_upto_region 1 with fail
  rw [← HW0.out]
  go_wp2_with (refine wpList_load_var rfl _ rfl Try.underlying27 rfl rfl v0 (by kernel_rfl) ?_)
  refine (ref_qmay_any (⟨kind, tid, timeout, pid, ep, part, group, off, most, yes, ⟨bp, be, bs, bt, rs⟩⟩ : Rq) A n c B q W0 x0 hB0 HQ.out).mono ?_
  rintro e W1 ⟨rfl, hb1⟩
  have v1 := v0.below hb1 v0.lt
  have x1 := x0.below (hb1.mono hB0)
  have b1 := b0.trans (hb1.mono b0.size)
  have hB1 := Nat.le_trans hB0 hb1.size
  clear v0 x0 hb1 HW0
  cases q with
  | false =>
    obtain ⟨rfl, rfl⟩ := HY.out.one (.inr ⟨fun h => (by have := HQ.out.2 h; cases this), rfl, rfl⟩)
    clear HY HQ v1 x1
    go_wp2
    go_ret2
    exact ⟨b1, none, 0, 0, rfl, rfl, Seen.nil _ _ _, Nat.le_refl _⟩
  | true =>
    have hgood := HQ.out.1 (by first | rfl | trivial)
    obtain ⟨rfl, rfl⟩ := HY.out.one (.inl ⟨hgood, rfl, rfl⟩)
    have hk09 : 0 ≤ kind ∧ kind ≤ 9 := hgood.1
    have hall := hgood.2.1
    have HALL := Lib.hid hall
    have hst := Wrote.start W1
    clear HY HQ hgood hall
    by_cases h0 : kind = 0
    · subst h0
      clear HALL hk09
      have c0 := v1.cell 0 rfl
      have z0 := v1.lt
      go_wp2_with fail
      refine (ref_qnumbers_new [0] 1 hst rfl (by simp) (by omega) (by omega)).mono ?_
      rintro e W2 ⟨A2, c2, l2, rfl, w2, hl2⟩
      have v2 := v1.below w2.below v1.lt
      clear c0 z0 hst
      have c2_0 := v2.cell 0 rfl
      have z2 := v2.lt
      have HEND : Hid (([] ++ encN [0]) = Rq.enc (⟨0, tid, timeout, pid, ep, part, group, off, most, yes, ⟨bp, be, bs, bt, rs⟩⟩ : Rq)) := by
        show _ = _
        simp [Rq.enc, encFs, fdsOf, encN]
      have hw := w2
      rw [HEND.out] at hw
      have hbz := b1.trans (hw.below.mono b1.size)
      have HWW := Lib.hid hw
      clear hw
      go_wp2
      go_ret2
      exact ⟨hbz, A2, c2, l2, rfl, HWW.out.len, HWW.out.seen, HWW.out.cap⟩
    by_cases h1 : kind = 1
    · subst h1
      obtain ⟨n_tid, rfl⟩ : ∃ m : Nat, tid = m := ⟨tid.toNat, by have h9 := (HALL.out .tid (by simp [fdsOf])).1; simp only [Fd.lo] at h9; omega⟩
      have q_tid : n_tid ≤ 1099511627776 := by have h9 := (HALL.out .tid (by simp [fdsOf])).2; simp only [Fd.hi] at h9; omega
      obtain ⟨n_timeout, rfl⟩ : ∃ m : Nat, timeout = m := ⟨timeout.toNat, by have h9 := (HALL.out .timeout (by simp [fdsOf])).1; simp only [Fd.lo] at h9; omega⟩
      have q_timeout : n_timeout ≤ 1099511627776 := by have h9 := (HALL.out .timeout (by simp [fdsOf])).2; simp only [Fd.hi] at h9; omega
      clear HALL hk09
      have c0 := v1.cell 0 rfl
      have z0 := v1.lt
      go_wp2_with fail
      refine (ref_qnumbers_new [1] 1 hst rfl (by simp) (by omega) (by omega)).mono ?_
      rintro e W2 ⟨A2, c2, l2, rfl, w2, hl2⟩
      have v2 := v1.below w2.below v1.lt
      clear c0 z0 hst
      have c2_0 := v2.cell 0 rfl
      have c2_1 := v2.cell 1 rfl
      have c2_2 := v2.cell 2 rfl
      have z2 := v2.lt
      go_wp2_with fail
      refine (ref_qnumbers_new [n_tid, n_timeout] 2 w2 rfl (by simp; omega) (by omega) (by omega)).mono ?_
      rintro e W3 ⟨A3, c3, l3, rfl, w3, hl3⟩
      have v3 := v1.below w3.below v1.lt
      clear c2_0 c2_1 c2_2 z2 v2
      have HEND : Hid ((([] ++ encN [1]) ++ encN [n_tid, n_timeout]) = Rq.enc (⟨1, (n_tid : Int), (n_timeout : Int), pid, ep, part, group, off, most, yes, ⟨bp, be, bs, bt, rs⟩⟩ : Rq)) := by
        show _ = _
        simp [Rq.enc, encFs, fdsOf, Rq.encF, encN]
      have hw := w3
      rw [HEND.out] at hw
      have hbz := b1.trans (hw.below.mono b1.size)
      have HWW := Lib.hid hw
      clear hw
      go_wp2
      go_ret2
      exact ⟨hbz, A3, c3, l3, rfl, HWW.out.len, HWW.out.seen, HWW.out.cap⟩
    by_cases h2 : kind = 2
    · subst h2
      obtain ⟨n_part, rfl⟩ : ∃ m : Nat, part = m := ⟨part.toNat, by have h9 := (HALL.out .part (by simp [fdsOf])).1; simp only [Fd.lo] at h9; omega⟩
      have q_part : n_part ≤ 1099511627776 := by have h9 := (HALL.out .part (by simp [fdsOf])).2; simp only [Fd.hi] at h9; omega
      have hbg : Bt.Good ⟨bp, be, bs, bt, rs⟩ := HALL.out .batch (by simp [fdsOf])
      have HBG := Lib.hid hbg
      clear hbg
      clear HALL hk09
      have c0 := v1.cell 0 rfl
      have z0 := v1.lt
      go_wp2_with fail
      refine (ref_qnumbers_new [2] 1 hst rfl (by simp) (by omega) (by omega)).mono ?_
      rintro e W2 ⟨A2, c2, l2, rfl, w2, hl2⟩
      have v2 := v1.below w2.below v1.lt
      clear c0 z0 hst
      have c2_0 := v2.cell 0 rfl
      have c2_5 := v2.cell 5 rfl
      have z2 := v2.lt
      go_wp2_with fail
      refine (ref_qnumbers_new [n_part] 1 w2 rfl (by simp; omega) (by omega) (by omega)).mono ?_
      rintro e W3 ⟨A3, c3, l3, rfl, w3, hl3⟩
      have v3 := v1.below w3.below v1.lt
      clear c2_0 c2_5 z2 v2
      have c3_10 := v3.cell 10 rfl
      have c3_11 := v3.cell 11 rfl
      have c3_12 := v3.cell 12 rfl
      have c3_13 := v3.cell 13 rfl
      have c3_14 := v3.cell 14 rfl
      have z3 := v3.lt
      go_wp2_with fail
      have x3 := x1.below (w3.below.mono hB1)
      refine (ref_bytes_all A n c B rs bp be bs bt W3 ⟨(Bt.enc ⟨bp, be, bs, bt, rs⟩).toArray⟩ 0 (.inl ⟨HBG.out, rfl, rfl⟩) x3.len x3.seen (Nat.le_trans hB1 w3.below.size) x3.max x3.sizes).mono ?_
      rintro e WT ⟨rfl, hbt⟩
      have wt := w3.next hbt
      obtain ⟨t, ht⟩ : ∃ t : ByteArray, t = ⟨(Bt.enc ⟨bp, be, bs, bt, rs⟩).toArray⟩ := ⟨_, rfl⟩
      rw [← ht]
      have hts : t.size ≤ 160 := by rw [ht, ← bytesOf_length, bytesOf_mk]; exact Bt.enc_le HBG.out
      have HT := Lib.hid ht
      clear ht x3
      go_wp2_with fail
      refine (ref_qtext wt t hts (by omega)).mono ?_
      rintro e W4 ⟨A4, c4, l4, rfl, w4, hl4⟩
      have v4 := v1.below w4.below v1.lt
      clear c3_10 c3_11 c3_12 c3_13 c3_14 z3 v3
      have HEND : Hid (((([] ++ encN [2]) ++ encN [n_part]) ++ (VP.enc t.size ++ bytesOf t)) = Rq.enc (⟨2, tid, timeout, pid, ep, (n_part : Int), group, off, most, yes, ⟨bp, be, bs, bt, rs⟩⟩ : Rq)) := by
        show _ = _
        rw [HT.out, bytesOf_mk, ← bytesOf_length, bytesOf_mk]
        simp [Rq.enc, encFs, fdsOf, Rq.encF, encN]
      have hw := w4
      rw [HEND.out] at hw
      have hbz := b1.trans (hw.below.mono b1.size)
      have HWW := Lib.hid hw
      clear hw
      go_wp2
      go_ret2
      exact ⟨hbz, A4, c4, l4, rfl, HWW.out.len, HWW.out.seen, HWW.out.cap⟩
    by_cases h3 : kind = 3
    · subst h3
      obtain ⟨n_pid, rfl⟩ : ∃ m : Nat, pid = m := ⟨pid.toNat, by have h9 := (HALL.out .pid (by simp [fdsOf])).1; simp only [Fd.lo] at h9; omega⟩
      have q_pid : n_pid ≤ 1099511627776 := by have h9 := (HALL.out .pid (by simp [fdsOf])).2; simp only [Fd.hi] at h9; omega
      obtain ⟨n_ep, rfl⟩ : ∃ m : Nat, ep = m := ⟨ep.toNat, by have h9 := (HALL.out .ep (by simp [fdsOf])).1; simp only [Fd.lo] at h9; omega⟩
      have q_ep : n_ep ≤ 1099511627776 := by have h9 := (HALL.out .ep (by simp [fdsOf])).2; simp only [Fd.hi] at h9; omega
      obtain ⟨n_group, rfl⟩ : ∃ m : Nat, group = m := ⟨group.toNat, by have h9 := (HALL.out .group (by simp [fdsOf])).1; simp only [Fd.lo] at h9; omega⟩
      have q_group : n_group ≤ 1099511627776 := by have h9 := (HALL.out .group (by simp [fdsOf])).2; simp only [Fd.hi] at h9; omega
      obtain ⟨n_part, rfl⟩ : ∃ m : Nat, part = m := ⟨part.toNat, by have h9 := (HALL.out .part (by simp [fdsOf])).1; simp only [Fd.lo] at h9; omega⟩
      have q_part : n_part ≤ 1099511627776 := by have h9 := (HALL.out .part (by simp [fdsOf])).2; simp only [Fd.hi] at h9; omega
      obtain ⟨n_off, rfl⟩ : ∃ m : Nat, off = m := ⟨off.toNat, by have h9 := (HALL.out .off (by simp [fdsOf])).1; simp only [Fd.lo] at h9; omega⟩
      have q_off : n_off ≤ 1099511627776 := by have h9 := (HALL.out .off (by simp [fdsOf])).2; simp only [Fd.hi] at h9; omega
      clear HALL hk09
      have c0 := v1.cell 0 rfl
      have z0 := v1.lt
      go_wp2_with fail
      refine (ref_qnumbers_new [3] 1 hst rfl (by simp) (by omega) (by omega)).mono ?_
      rintro e W2 ⟨A2, c2, l2, rfl, w2, hl2⟩
      have v2 := v1.below w2.below v1.lt
      clear c0 z0 hst
      have c2_0 := v2.cell 0 rfl
      have c2_3 := v2.cell 3 rfl
      have c2_4 := v2.cell 4 rfl
      have c2_6 := v2.cell 6 rfl
      have c2_5 := v2.cell 5 rfl
      have c2_7 := v2.cell 7 rfl
      have z2 := v2.lt
      go_wp2_with fail
      refine (ref_qnumbers_new [n_pid, n_ep, n_group, n_part, n_off] 5 w2 rfl (by simp; omega) (by omega) (by omega)).mono ?_
      rintro e W3 ⟨A3, c3, l3, rfl, w3, hl3⟩
      have v3 := v1.below w3.below v1.lt
      clear c2_0 c2_3 c2_4 c2_6 c2_5 c2_7 z2 v2
      have HEND : Hid ((([] ++ encN [3]) ++ encN [n_pid, n_ep, n_group, n_part, n_off]) = Rq.enc (⟨3, tid, timeout, (n_pid : Int), (n_ep : Int), (n_part : Int), (n_group : Int), (n_off : Int), most, yes, ⟨bp, be, bs, bt, rs⟩⟩ : Rq)) := by
        show _ = _
        simp [Rq.enc, encFs, fdsOf, Rq.encF, encN]
      have hw := w3
      rw [HEND.out] at hw
      have hbz := b1.trans (hw.below.mono b1.size)
      have HWW := Lib.hid hw
      clear hw
      go_wp2
      go_ret2
      exact ⟨hbz, A3, c3, l3, rfl, HWW.out.len, HWW.out.seen, HWW.out.cap⟩
    by_cases h4 : kind = 4
    · subst h4
      obtain ⟨n_pid, rfl⟩ : ∃ m : Nat, pid = m := ⟨pid.toNat, by have h9 := (HALL.out .pid (by simp [fdsOf])).1; simp only [Fd.lo] at h9; omega⟩
      have q_pid : n_pid ≤ 1099511627776 := by have h9 := (HALL.out .pid (by simp [fdsOf])).2; simp only [Fd.hi] at h9; omega
      obtain ⟨n_ep, rfl⟩ : ∃ m : Nat, ep = m := ⟨ep.toNat, by have h9 := (HALL.out .ep (by simp [fdsOf])).1; simp only [Fd.lo] at h9; omega⟩
      have q_ep : n_ep ≤ 1099511627776 := by have h9 := (HALL.out .ep (by simp [fdsOf])).2; simp only [Fd.hi] at h9; omega
      clear HALL hk09
      have c0 := v1.cell 0 rfl
      have z0 := v1.lt
      go_wp2_with fail
      refine (ref_qnumbers_new [4] 1 hst rfl (by simp) (by omega) (by omega)).mono ?_
      rintro e W2 ⟨A2, c2, l2, rfl, w2, hl2⟩
      have v2 := v1.below w2.below v1.lt
      clear c0 z0 hst
      have c2_0 := v2.cell 0 rfl
      have c2_3 := v2.cell 3 rfl
      have c2_4 := v2.cell 4 rfl
      have z2 := v2.lt
      go_wp2_with fail
      refine (ref_qnumbers_new [n_pid, n_ep] 2 w2 rfl (by simp; omega) (by omega) (by omega)).mono ?_
      rintro e W3 ⟨A3, c3, l3, rfl, w3, hl3⟩
      have v3 := v1.below w3.below v1.lt
      clear c2_0 c2_3 c2_4 z2 v2
      have c3_9 := v3.cell 9 rfl
      have z3 := v3.lt
      go_wp2_with fail
      refine (ref_flag_next w3 yes (by omega)).mono ?_
      rintro e W4 ⟨A4, c4, l4, rfl, w4, hl4, -⟩
      have v4 := v1.below w4.below v1.lt
      clear c3_9 z3 v3
      have HEND : Hid (((([] ++ encN [4]) ++ encN [n_pid, n_ep]) ++ [flagByte yes]) = Rq.enc (⟨4, tid, timeout, (n_pid : Int), (n_ep : Int), part, group, off, most, yes, ⟨bp, be, bs, bt, rs⟩⟩ : Rq)) := by
        show _ = _
        simp [Rq.enc, encFs, fdsOf, Rq.encF, encN]
      have hw := w4
      rw [HEND.out] at hw
      have hbz := b1.trans (hw.below.mono b1.size)
      have HWW := Lib.hid hw
      clear hw
      go_wp2
      go_ret2
      exact ⟨hbz, A4, c4, l4, rfl, HWW.out.len, HWW.out.seen, HWW.out.cap⟩
    by_cases h5 : kind = 5
    · subst h5
      obtain ⟨n_part, rfl⟩ : ∃ m : Nat, part = m := ⟨part.toNat, by have h9 := (HALL.out .part (by simp [fdsOf])).1; simp only [Fd.lo] at h9; omega⟩
      have q_part : n_part ≤ 1099511627776 := by have h9 := (HALL.out .part (by simp [fdsOf])).2; simp only [Fd.hi] at h9; omega
      obtain ⟨n_off, rfl⟩ : ∃ m : Nat, off = m := ⟨off.toNat, by have h9 := (HALL.out .off (by simp [fdsOf])).1; simp only [Fd.lo] at h9; omega⟩
      have q_off : n_off ≤ 1099511627776 := by have h9 := (HALL.out .off (by simp [fdsOf])).2; simp only [Fd.hi] at h9; omega
      obtain ⟨n_most, rfl⟩ : ∃ m : Nat, most = m := ⟨most.toNat, by have h9 := (HALL.out .most (by simp [fdsOf])).1; simp only [Fd.lo] at h9; omega⟩
      have q_most : n_most ≤ 1099511627776 := by have h9 := (HALL.out .most (by simp [fdsOf])).2; simp only [Fd.hi] at h9; omega
      clear HALL hk09
      have c0 := v1.cell 0 rfl
      have z0 := v1.lt
      go_wp2_with fail
      refine (ref_qnumbers_new [5] 1 hst rfl (by simp) (by omega) (by omega)).mono ?_
      rintro e W2 ⟨A2, c2, l2, rfl, w2, hl2⟩
      have v2 := v1.below w2.below v1.lt
      clear c0 z0 hst
      have c2_0 := v2.cell 0 rfl
      have c2_5 := v2.cell 5 rfl
      have c2_7 := v2.cell 7 rfl
      have c2_8 := v2.cell 8 rfl
      have z2 := v2.lt
      go_wp2_with fail
      refine (ref_qnumbers_new [n_part, n_off, n_most] 3 w2 rfl (by simp; omega) (by omega) (by omega)).mono ?_
      rintro e W3 ⟨A3, c3, l3, rfl, w3, hl3⟩
      have v3 := v1.below w3.below v1.lt
      clear c2_0 c2_5 c2_7 c2_8 z2 v2
      have c3_9 := v3.cell 9 rfl
      have z3 := v3.lt
      go_wp2_with fail
      refine (ref_flag_next w3 yes (by omega)).mono ?_
      rintro e W4 ⟨A4, c4, l4, rfl, w4, hl4, -⟩
      have v4 := v1.below w4.below v1.lt
      clear c3_9 z3 v3
      have HEND : Hid (((([] ++ encN [5]) ++ encN [n_part, n_off, n_most]) ++ [flagByte yes]) = Rq.enc (⟨5, tid, timeout, pid, ep, (n_part : Int), group, (n_off : Int), (n_most : Int), yes, ⟨bp, be, bs, bt, rs⟩⟩ : Rq)) := by
        show _ = _
        simp [Rq.enc, encFs, fdsOf, Rq.encF, encN]
      have hw := w4
      rw [HEND.out] at hw
      have hbz := b1.trans (hw.below.mono b1.size)
      have HWW := Lib.hid hw
      clear hw
      go_wp2
      go_ret2
      exact ⟨hbz, A4, c4, l4, rfl, HWW.out.len, HWW.out.seen, HWW.out.cap⟩
    by_cases h6 : kind = 6
    · subst h6
      obtain ⟨n_group, rfl⟩ : ∃ m : Nat, group = m := ⟨group.toNat, by have h9 := (HALL.out .group (by simp [fdsOf])).1; simp only [Fd.lo] at h9; omega⟩
      have q_group : n_group ≤ 1099511627776 := by have h9 := (HALL.out .group (by simp [fdsOf])).2; simp only [Fd.hi] at h9; omega
      obtain ⟨n_part, rfl⟩ : ∃ m : Nat, part = m := ⟨part.toNat, by have h9 := (HALL.out .part (by simp [fdsOf])).1; simp only [Fd.lo] at h9; omega⟩
      have q_part : n_part ≤ 1099511627776 := by have h9 := (HALL.out .part (by simp [fdsOf])).2; simp only [Fd.hi] at h9; omega
      obtain ⟨n_off, rfl⟩ : ∃ m : Nat, off = m := ⟨off.toNat, by have h9 := (HALL.out .off (by simp [fdsOf])).1; simp only [Fd.lo] at h9; omega⟩
      have q_off : n_off ≤ 1099511627776 := by have h9 := (HALL.out .off (by simp [fdsOf])).2; simp only [Fd.hi] at h9; omega
      clear HALL hk09
      have c0 := v1.cell 0 rfl
      have z0 := v1.lt
      go_wp2_with fail
      refine (ref_qnumbers_new [6] 1 hst rfl (by simp) (by omega) (by omega)).mono ?_
      rintro e W2 ⟨A2, c2, l2, rfl, w2, hl2⟩
      have v2 := v1.below w2.below v1.lt
      clear c0 z0 hst
      have c2_0 := v2.cell 0 rfl
      have c2_6 := v2.cell 6 rfl
      have c2_5 := v2.cell 5 rfl
      have c2_7 := v2.cell 7 rfl
      have z2 := v2.lt
      go_wp2_with fail
      refine (ref_qnumbers_new [n_group, n_part, n_off] 3 w2 rfl (by simp; omega) (by omega) (by omega)).mono ?_
      rintro e W3 ⟨A3, c3, l3, rfl, w3, hl3⟩
      have v3 := v1.below w3.below v1.lt
      clear c2_0 c2_6 c2_5 c2_7 z2 v2
      have HEND : Hid ((([] ++ encN [6]) ++ encN [n_group, n_part, n_off]) = Rq.enc (⟨6, tid, timeout, pid, ep, (n_part : Int), (n_group : Int), (n_off : Int), most, yes, ⟨bp, be, bs, bt, rs⟩⟩ : Rq)) := by
        show _ = _
        simp [Rq.enc, encFs, fdsOf, Rq.encF, encN]
      have hw := w3
      rw [HEND.out] at hw
      have hbz := b1.trans (hw.below.mono b1.size)
      have HWW := Lib.hid hw
      clear hw
      go_wp2
      go_ret2
      exact ⟨hbz, A3, c3, l3, rfl, HWW.out.len, HWW.out.seen, HWW.out.cap⟩
    by_cases h7 : kind = 7
    · subst h7
      obtain ⟨n_group, rfl⟩ : ∃ m : Nat, group = m := ⟨group.toNat, by have h9 := (HALL.out .group (by simp [fdsOf])).1; simp only [Fd.lo] at h9; omega⟩
      have q_group : n_group ≤ 1099511627776 := by have h9 := (HALL.out .group (by simp [fdsOf])).2; simp only [Fd.hi] at h9; omega
      obtain ⟨n_part, rfl⟩ : ∃ m : Nat, part = m := ⟨part.toNat, by have h9 := (HALL.out .part (by simp [fdsOf])).1; simp only [Fd.lo] at h9; omega⟩
      have q_part : n_part ≤ 1099511627776 := by have h9 := (HALL.out .part (by simp [fdsOf])).2; simp only [Fd.hi] at h9; omega
      clear HALL hk09
      have c0 := v1.cell 0 rfl
      have z0 := v1.lt
      go_wp2_with fail
      refine (ref_qnumbers_new [7] 1 hst rfl (by simp) (by omega) (by omega)).mono ?_
      rintro e W2 ⟨A2, c2, l2, rfl, w2, hl2⟩
      have v2 := v1.below w2.below v1.lt
      clear c0 z0 hst
      have c2_0 := v2.cell 0 rfl
      have c2_6 := v2.cell 6 rfl
      have c2_5 := v2.cell 5 rfl
      have z2 := v2.lt
      go_wp2_with fail
      refine (ref_qnumbers_new [n_group, n_part] 2 w2 rfl (by simp; omega) (by omega) (by omega)).mono ?_
      rintro e W3 ⟨A3, c3, l3, rfl, w3, hl3⟩
      have v3 := v1.below w3.below v1.lt
      clear c2_0 c2_6 c2_5 z2 v2
      have HEND : Hid ((([] ++ encN [7]) ++ encN [n_group, n_part]) = Rq.enc (⟨7, tid, timeout, pid, ep, (n_part : Int), (n_group : Int), off, most, yes, ⟨bp, be, bs, bt, rs⟩⟩ : Rq)) := by
        show _ = _
        simp [Rq.enc, encFs, fdsOf, Rq.encF, encN]
      have hw := w3
      rw [HEND.out] at hw
      have hbz := b1.trans (hw.below.mono b1.size)
      have HWW := Lib.hid hw
      clear hw
      go_wp2
      go_ret2
      exact ⟨hbz, A3, c3, l3, rfl, HWW.out.len, HWW.out.seen, HWW.out.cap⟩
    by_cases h8 : kind = 8
    · subst h8
      obtain ⟨n_part, rfl⟩ : ∃ m : Nat, part = m := ⟨part.toNat, by have h9 := (HALL.out .part (by simp [fdsOf])).1; simp only [Fd.lo] at h9; omega⟩
      have q_part : n_part ≤ 1099511627776 := by have h9 := (HALL.out .part (by simp [fdsOf])).2; simp only [Fd.hi] at h9; omega
      obtain ⟨n_off, rfl⟩ : ∃ m : Nat, off = m := ⟨off.toNat, by have h9 := (HALL.out .off (by simp [fdsOf])).1; simp only [Fd.lo] at h9; omega⟩
      have q_off : n_off ≤ 1099511627776 := by have h9 := (HALL.out .off (by simp [fdsOf])).2; simp only [Fd.hi] at h9; omega
      clear HALL hk09
      have c0 := v1.cell 0 rfl
      have z0 := v1.lt
      go_wp2_with fail
      refine (ref_qnumbers_new [8] 1 hst rfl (by simp) (by omega) (by omega)).mono ?_
      rintro e W2 ⟨A2, c2, l2, rfl, w2, hl2⟩
      have v2 := v1.below w2.below v1.lt
      clear c0 z0 hst
      have c2_0 := v2.cell 0 rfl
      have c2_5 := v2.cell 5 rfl
      have c2_7 := v2.cell 7 rfl
      have z2 := v2.lt
      go_wp2_with fail
      refine (ref_qnumbers_new [n_part, n_off] 2 w2 rfl (by simp; omega) (by omega) (by omega)).mono ?_
      rintro e W3 ⟨A3, c3, l3, rfl, w3, hl3⟩
      have v3 := v1.below w3.below v1.lt
      clear c2_0 c2_5 c2_7 z2 v2
      have HEND : Hid ((([] ++ encN [8]) ++ encN [n_part, n_off]) = Rq.enc (⟨8, tid, timeout, pid, ep, (n_part : Int), group, (n_off : Int), most, yes, ⟨bp, be, bs, bt, rs⟩⟩ : Rq)) := by
        show _ = _
        simp [Rq.enc, encFs, fdsOf, Rq.encF, encN]
      have hw := w3
      rw [HEND.out] at hw
      have hbz := b1.trans (hw.below.mono b1.size)
      have HWW := Lib.hid hw
      clear hw
      go_wp2
      go_ret2
      exact ⟨hbz, A3, c3, l3, rfl, HWW.out.len, HWW.out.seen, HWW.out.cap⟩
    obtain h9 : kind = 9 := by omega
    subst h9
    clear HALL hk09
    have c0 := v1.cell 0 rfl
    have z0 := v1.lt
    go_wp2_with fail
    refine (ref_qnumbers_new [9] 1 hst rfl (by simp) (by omega) (by omega)).mono ?_
    rintro e W2 ⟨A2, c2, l2, rfl, w2, hl2⟩
    have v2 := v1.below w2.below v1.lt
    clear c0 z0 hst
    have c2_0 := v2.cell 0 rfl
    have z2 := v2.lt
    have HEND : Hid (([] ++ encN [9]) = Rq.enc (⟨9, tid, timeout, pid, ep, part, group, off, most, yes, ⟨bp, be, bs, bt, rs⟩⟩ : Rq)) := by
      show _ = _
      simp [Rq.enc, encFs, fdsOf, encN]
    have hw := w2
    rw [HEND.out] at hw
    have hbz := b1.trans (hw.below.mono b1.size)
    have HWW := Lib.hid hw
    clear hw
    go_wp2
    go_ret2
    exact ⟨hbz, A2, c2, l2, rfl, HWW.out.len, HWW.out.seen, HWW.out.cap⟩
end Go.Proofs.Ytfcifblbapadpaa
