/-
  Contracts of the methods by which entry's writer writes a copy's fields, and a state's. Conditions: those that each theorem names.
-/
import Derived.Test.YtchpemgamgcbkaaGreatEntKinds
namespace Go.Proofs.YtchpemgamgcbkaaGreat
open Go.RowKit

set_option maxRecDepth 100000 in
set_option maxHeartbeats 1000000 in
theorem wcopied (g : Nat) (ys : List UInt8) (b : Bt) (yes : Bool) (nx : Int) (A D : Option Addr) (n c m d B : Nat) (w : World) (hw : Wt w g ys) (hy : ys.length ≤ 20) (hx : EIn w B (copyE b yes nx) A n c D m d) (hB : B ≤ w.heap.size) (h : b.Good) (hn : 0 ≤ nx ∧ nx ≤ 1048576) :
    Calls Tryz.prog 64 #[.pointer (some ⟨g, 0, none⟩), .agg (evals (copyE b yes nx) A n c D m d)] w (WRes2 w g (ys ++ (copyE b yes nx).body)) := by
  obtain ⟨h1, h2⟩ := hn
  obtain ⟨e1, rfl⟩ : ∃ e1 : Nat, nx = e1 := ⟨nx.toNat, by omega⟩
  have hl : ∀ x ∈ [e1], x ≤ 1099511627776 := by simp; omega
  have hle := Bt.enc_le h
  have HB1 : Hid (ys ++ b.enc ++ [flagByte true] ++ encN [e1] = ys ++ (copyE b true e1).body) := by show _ = _; simp [En.body, copyE, encN]
  have HB2 : Hid (ys ++ b.enc ++ [flagByte false] = ys ++ (copyE b false e1).body) := by show _ = _; simp [En.body, copyE]
  obtain ⟨W0, hW0⟩ : ∃ W0, W0 = w.alloc (.cells (evals (copyE b yes e1) A n c D m d) 32) := ⟨_, rfl⟩
  have v0 : Var W0 w.heap.size 32 (evals (copyE b yes e1) A n c D m d) := by rw [hW0]; exact Var.new _ _ _
  have b0 : Below w.heap.size w W0 := by rw [hW0]; exact below_new _
  have hgw := hw.lt
  have hw0 := hw.below b0
  have k0 := WK.of_below b0 (Nat.le_of_lt hgw)
  have hx0 := hx.below (b0.mono hB)
  have hB0 := Nat.le_trans hB b0.size
  have HX0 := Lib.hid hx0
  have HG := Lib.hid h
  clear hw hx hx0 h
  simp only [evals, copyE, noRw, noPd] at hW0 v0 ⊢
  have HW0 := Lib.hid hW0
  clear hW0
  go_enter Tryz.func64, Tryz.ntmps64
  go_upto_region 1 with fail
  rw [← HW0.out]
  go_wp2_with (refine wpList_load_var rfl _ rfl Tryz.underlying32 rfl rfl v0 (by kernel_rfl) ?_)
  refine (wdata g ys (copyE b yes e1) A D n c m d B W0 hw0 hy HX0.out hB0 HG.out).mono ?_
  rintro e W1 ⟨rfl, hw1, r1⟩
  have v1 := r1.2 _ _ _ v0 (by omega) (by decide)
  have k1 := k0.trans r1
  clear v0 r1 hw0
  have d6 := v1.cell 6 rfl
  have z1 := v1.lt
  have hl1 : (ys ++ (copyE b yes e1).b.enc).length ≤ 180 := by rw [List.length_append]; simp only [copyE]; omega
  go_wp2_with fail
  refine (wflag_any g _ yes W1 hw1 (by omega)).mono ?_
  rintro e W2 ⟨rfl, hw2, q2⟩
  have r2 := WK.of_kept q2 (by omega)
  have v2 := r2.2 _ _ _ v1 (by omega) (by decide)
  have k2 := k1.trans r2
  clear v1 r2 q2 hw1 d6 z1
  have d6 := v2.cell 6 rfl
  have d7 := v2.cell 7 rfl
  have z2 := v2.lt
  cases yes with
  | true =>
    go_wp2_with fail
    refine (numbers_new W2 g _ [e1] 1 hw2 rfl hl (by omega) (by rw [List.length_append]; simp only [List.length_cons, List.length_nil]; omega)).mono ?_
    rintro e W3 ⟨rfl, hw3, q3⟩
    have k3 := k2.trans (WK.of_kept q3 (by omega))
    clear v2 d6 d7 z2 hw2 q3
    go_wp2
    refine bodyPost_end (results_none rfl _ _ _) rfl ?_
    exact ⟨rfl, Eq.mp (congrArg (Wt W3 g) HB1.out) hw3, k3⟩
  | false =>
    go_wp2
    refine bodyPost_end (results_none rfl _ _ _) rfl ?_
    exact ⟨rfl, Eq.mp (congrArg (Wt W2 g) HB2.out) hw2, k2⟩

theorem encSn_step {l : List Sn} {k : Nat} {x : Sn} (h : l[k]? = some x) : encSn (l.take (k + 1)) = encSn (l.take k) ++ x.enc := by
  rw [List.take_add_one, h]
  exact encSn_snoc _ _

set_option maxRecDepth 100000 in
set_option maxHeartbeats 1000000 in
theorem wstate (g : Nat) (ys : List UInt8) (p : Pd) (A D : Option Addr) (n c m d B : Nat) (w : World) (hw : Wt w g ys) (hy : ys.length ≤ 20) (hx : EIn w B (stateE p) A n c D m d) (hB : B ≤ w.heap.size) (hBg : B ≤ g) (h : p.Good) :
    Calls Tryz.prog 70 #[.pointer (some ⟨g, 0, none⟩), .agg (evals (stateE p) A n c D m d)] w (WRes2 w g (ys ++ (stateE p).body)) := by
  obtain ⟨pid, ep, nx, sn⟩ := p
  obtain ⟨⟨⟨h1, h2⟩, h3, h4⟩, ⟨h5, h6⟩, h7, h8⟩ := h
  simp only at h1 h2 h3 h4 h5 h6 h7 h8
  obtain ⟨a, rfl⟩ : ∃ a : Nat, pid = a := ⟨pid.toNat, by omega⟩
  obtain ⟨b, rfl⟩ : ∃ b : Nat, ep = b := ⟨ep.toNat, by omega⟩
  obtain ⟨e1, rfl⟩ : ∃ e1 : Nat, nx = e1 := ⟨nx.toNat, by omega⟩
  obtain ⟨hlen, hseen, -, hmax⟩ := hx.pd
  simp only [stateE] at hlen hseen
  have hm3 : m ≤ 3 := by omega
  have hl : ∀ x ∈ [a, b, e1, m], x ≤ 1099511627776 := by simp; omega
  have hle := encN_le [a, b, e1, m] hl
  simp only [List.length_cons, List.length_nil] at hle
  have HB : Hid (ys ++ encN [a, b, e1, m] ++ encSn sn = ys ++ (stateE ⟨a, b, e1, sn⟩).body) := by show _ = _; rw [← hlen]; simp [En.body, stateE, Pd.enc, encN]
  have HL := Lib.hid hlen
  have HS := Lib.hid (fun s hs => h8.in s hs)
  obtain ⟨W0, hW0⟩ : ∃ W0, W0 = w.alloc (.cells (evals (stateE ⟨a, b, e1, sn⟩) A n c D m d) 32) := ⟨_, rfl⟩
  have v0 : Var W0 w.heap.size 32 (evals (stateE ⟨a, b, e1, sn⟩) A n c D m d) := by rw [hW0]; exact Var.new _ _ _
  have b0 : Below w.heap.size w W0 := by rw [hW0]; exact below_new _
  have hgw := hw.lt
  have hs0 := hseen.below (b0.mono hB)
  have k0 := WK.of_below b0 (Nat.le_of_lt hgw)
  have hw0 := hw.below b0
  clear hw hx hlen hseen h8
  simp only [evals, stateE, noRw, noBt] at hW0 v0 ⊢
  have HW0 := Lib.hid hW0
  clear hW0
  go_enter Tryz.func70, Tryz.ntmps70
  go_upto_region 1 with fail
  rw [← HW0.out]
  have d14 := v0.cell 14 rfl
  have d15 := v0.cell 15 rfl
  have d16 := v0.cell 16 rfl
  have d17 := v0.cell 17 rfl
  have z0 := v0.lt
  go_upto_region 2 with fail
  refine wp_at (C := fun W => Var W W0.heap.size 30 #[.int .i64 (a : Int), .int .i64 (b : Int), .int .i64 (e1 : Int), .slice D m d] ∧ WK g w W ∧ Wt W g ys ∧ Seen W B D (scells sn)) ⟨Var.new _ _ _, k0.trans (WK.of_below (below_new _) (by omega)), hw0.below (below_new _), hs0.below ((below_new _).mono (Nat.le_trans hB b0.size))⟩ ?_
  have hq : g < W0.heap.size := hw0.lt
  clear d14 d15 d16 d17 z0 v0 k0 hw0 hs0 HW0 b0
  obtain ⟨q, hqq⟩ : ∃ q, q = W0.heap.size := ⟨_, rfl⟩
  rw [← hqq] at hq ⊢
  rintro W1 ⟨v1, k1, hw1, hs1⟩
  clear hqq
  obtain ⟨d0, d1, d2, d3, -⟩ := v1.cells4
  have z1 := v1.lt
  go_wp2_with fail
  refine (numbers_new W1 g ys [a, b, e1, m] 4 hw1 rfl hl (by omega) (by omega)).mono ?_
  rintro e W2 ⟨rfl, hw2, q2⟩
  have k2 := k1.trans (WK.of_kept q2 (by omega))
  have v2 := v1.kept q2 (by simp; omega)
  have hs2 := hs1.below (q2.below (B := B) (by omega) (by simp; exact hBg))
  clear v1 k1 hw1 hs1 q2 d0 d1 d2 d3 z1
  obtain ⟨d0, d1, d2, d3, -⟩ := v2.cells4
  have z2 := v2.lt
  clear d0 d1 d2
  go_wp2
  clear d3 z2
  go_loopw [24] (fun i wr => ∃ (k : Nat), k ≤ m ∧ i = .int .i64 k ∧ Wt wr g (ys ++ encN [a, b, e1, m] ++ encSn (sn.take k)) ∧ WK g w wr ∧ Seen wr B D (scells sn) ∧ Hid ((ys ++ encN [a, b, e1, m] ++ encSn (sn.take k)).length ≤ 44 + 18 * k)) (fun i _ => m - (intOf i).toNat)
  case atStart => exact ⟨0, by omega, rfl, by simpa [encSn] using hw2, k2, hs2, by show _ ≤ _; simp only [List.take_zero, encSn, List.append_nil, List.length_append]; omega⟩
  case round =>
    clear hw2 k2 hs2 v2
    obtain ⟨k, hk, rfl, hwk, kk, hsk, HLE⟩ := hrel
    by_cases hlt : k < m
    · obtain ⟨x, hx⟩ := sn_here HL.out hlt
      obtain ⟨bb, off, rfl, hb, p0, p1, p2⟩ := sn_at hsk hx
      have hgk := hwk.lt
      have hbw : bb < wr.heap.size := by omega
      obtain ⟨⟨⟨c1, c2⟩, c3, c4⟩, c5, c6⟩ := HS.out x (List.mem_of_getElem? hx)
      have HST := Lib.hid (encSn_step hx)
      obtain ⟨sq, cnt, bs⟩ := x
      simp only at p0 p1 p2 c1 c2 c3 c4 c5 c6
      obtain ⟨x1, rfl⟩ : ∃ x1 : Nat, sq = x1 := ⟨sq.toNat, by omega⟩
      obtain ⟨x2, rfl⟩ : ∃ x2 : Nat, cnt = x2 := ⟨cnt.toNat, by omega⟩
      obtain ⟨x3, hx3⟩ : ∃ x3 : Nat, bs + 1 = x3 := ⟨(bs + 1).toNat, by omega⟩
      obtain rfl : bs = (x3 : Int) - 1 := by omega
      have hl3 : ∀ y ∈ [x1, x2, x3], y ≤ 1099511627776 := by simp; omega
      have hle3 := encN_le [x1, x2, x3] hl3
      simp only [List.length_cons, List.length_nil] at hle3
      have HE : Hid (ys ++ encN [a, b, e1, m] ++ encSn (sn.take k) ++ encN [x1, x2, x3] = ys ++ encN [a, b, e1, m] ++ encSn (sn.take (k + 1))) := by
        show _ = _
        rw [HST.out]
        simp [Sn.enc, encN]
      have HLN := HLE.out
      have hk1 : (ys ++ encN [a, b, e1, m] ++ encSn (sn.take k)).length ≤ 900 := by omega
      clear hx HST hx3 HLN
      go_upto_region 6 with fail
      refine wp_at (C := fun W => Var W wr.heap.size 75 #[.int .i64 (x1 : Int), .int .i64 (x2 : Int), .int .i64 ((x3 : Int) - 1)] ∧ WK g w W ∧ Wt W g (ys ++ encN [a, b, e1, m] ++ encSn (sn.take k)) ∧ Seen W B (some ⟨bb, off, none⟩) (scells sn)) ⟨Var.new _ _ _, kk.trans (WK.of_below (below_new _) (by omega)), hwk.below (below_new _), hsk.below ((below_new _).mono (by omega))⟩ ?_
      clear p0 p1 p2 kk hwk hsk
      obtain ⟨t, ht⟩ : ∃ t, t = wr.heap.size := ⟨_, rfl⟩
      rw [← ht] at hgk ⊢
      rintro W3 ⟨v3, k3, hw3, hs3⟩
      clear ht hbw
      obtain ⟨d0, d1, d2, -⟩ := v3.cells3
      have z3 := v3.lt
      go_wp2_with fail
      have hcall := numbers_new W3 g _ [x1, x2, x3] 3 hw3 rfl hl3 (by omega) hk1
      refine hcall.mono ?_
      rintro e W4 ⟨rfl, hw4, q4⟩
      have k4 := k3.trans (WK.of_kept q4 (by omega))
      have hs4 := hs3.below (q4.below (B := B) (by omega) (by simp; exact hBg))
      clear v3 k3 hw3 hs3 q4 d0 d1 d2 z3
      rw [HE.out] at hw4
      go_wp2
      go_roundw
      case rel => exact ⟨k + 1, by omega, by go_num, hw4, k4, hs4, by show _ ≤ _; have := HLE.out; rw [← HE.out, List.length_append]; omega⟩
      case measure => simp [intOf]; omega
    · have hkm : k = m := by omega
      subst hkm
      rw [List.take_of_length_le (by have := HL.out; omega)] at hwk
      go_wp2
      refine bodyPost_end (results_none rfl _ _ _) rfl ?_
      exact ⟨rfl, Eq.mp (congrArg (Wt _ g) HB.out) hwk, kk⟩
end Go.Proofs.YtchpemgamgcbkaaGreat
