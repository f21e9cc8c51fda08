/-
  Contracts of the document's numbers and Bytes: what they return and what they do to memory. Conditions: those that each theorem names.
-/
import Derived.Test.YtchpemgamgcbkaaGreatEntMayR
import Derived.Test.YtchpemgamgcbkaaGreatRecBytesR
namespace Go.Proofs.YtchpemgamgcbkaaGreat
open Go.RowKit

section
variable {W0 wq : World} {ys : List UInt8} {A : Option Addr} {c ly : Nat}
set_option maxRecDepth 100000 in
theorem ref_numbers_any (l : List Nat) (A2 : Option Addr) (n c2 B : Nat) (h : Wrote W0 wq ys A c ly) (hn : l.length = n) (hs : Seen wq B A2 (icells l)) (hB : B ≤ wq.heap.size) (hl : ∀ x ∈ l, x ≤ 1099511627776) (h4 : n ≤ 4) (hy : ly ≤ 800) :
    Calls Tryz.prog 30 #[.slice A ly c, .slice A2 n c2] wq fun e w' => ∃ A' c' lx, e = .returned (.slice A' lx c') ∧ Wrote W0 w' (ys ++ encN l) A' c' lx ∧ lx ≤ ly + 6 * n := by
  have HN := Lib.hid hn
  have HL := Lib.hid hl
  have HW := Lib.hid h
  have h0 : Wrote wq wq ys A c ly := ⟨h.seen, h.len, h.cap, h.le, Below.refl _ _⟩
  clear hn hl h
  go_enter Tryz.func30, Tryz.ntmps30
  go_wp2_with fail
  go_loopw [0, 5] (fun sv i wr => ∃ (k : Nat) (A1 : Option Addr) (c1 lx : Nat), k ≤ n ∧ i = .int .i64 k ∧ sv = .slice A1 lx c1 ∧ Wrote wq wr (ys ++ encN (l.take k)) A1 c1 lx ∧ lx ≤ ly + 6 * k) (fun _ i _ => n - (intOf i).toNat)
  case atStart => exact ⟨0, A, c, ly, by omega, rfl, rfl, by simpa [encN] using h0, by omega⟩
  case round =>
    clear h0
    obtain ⟨k, A1, c1, lx, hk, rfl, rfl, hw, hlx⟩ := hrel
    by_cases hlt : k < n
    · obtain ⟨x, hx⟩ : ∃ x, l[k]? = some x := ⟨_, List.getElem?_eq_getElem (by have := HN.out; omega)⟩
      have hx20 := HL.out x (List.mem_of_getElem? hx)
      have HS := Lib.hid (encN_step hx)
      obtain ⟨b, off, rfl, hb, p0⟩ := icells_at (hs.below (hw.below.mono hB)) hx
      have hbw : b < wr.heap.size := by have := hw.below.size; omega
      clear hx
      go_wp2_with fail
      refine (ref_num_next hw x (by omega) (by omega)).mono ?_
      rintro e w3 ⟨A3, c3, l3, rfl, hw3, hl3, -⟩
      rw [List.append_assoc, ← HS.out] at hw3
      clear p0 hw
      go_wp2
      go_roundw
      case rel => exact ⟨k + 1, A3, c3, l3, by omega, by go_num, rfl, hw3, by omega⟩
      case measure => simp [intOf]; omega
    · have hkn : k = n := by omega
      subst hkn
      rw [List.take_of_length_le (by have := HN.out; omega)] at hw
      have hW := HW.out
      go_wp2
      go_ret
      exact ⟨A1, c1, lx, rfl, ⟨hw.seen, hw.len, hw.cap, hw.le, hW.below.trans (hw.below.mono hW.below.size)⟩, hlx⟩
theorem ref_numbers_new (l : List Nat) (n : Nat) (h : Wrote W0 wq ys A c ly) (hn : l.length = n) (hl : ∀ x ∈ l, x ≤ 1099511627776) (h4 : n ≤ 4) (hy : ly ≤ 800) :
    Calls Tryz.prog 30 #[.slice A ly c, .slice (some ⟨wq.heap.size, 0, none⟩) n n] (wq.alloc (.cells (icells l).toArray 3)) fun e w' => ∃ A' c' lx, e = .returned (.slice A' lx c') ∧ Wrote W0 w' (ys ++ encN l) A' c' lx ∧ lx ≤ ly + 6 * n := by
  have hb := below_new (w := wq) (.cells (icells l).toArray 3)
  refine ref_numbers_any l _ n n (wq.heap.size + 1) (h.next hb) hn (fun _ => ⟨wq.heap.size, 0, rfl, Nat.lt_succ_self _, fun j u hu => ?_⟩) (by rw [World.size_alloc]; exact Nat.le_refl _) hl h4 hy
  rw [Nat.zero_add]
  exact (Var.new wq (icells l).toArray 3).cell j (by simpa using hu)
end
theorem seen_row {w : World} {base n c s : Nat} {e : TypeId} {A : Option Addr} {xs : List Value} (h : w.ownsRow base e s (.slice A n c) n xs) : Seen w w.heap.size A xs := by
  obtain ⟨A', c', hv, hs, -⟩ := own_formN h
  injection hv with h1 h2 h3
  subst h1
  exact hs
theorem row_below {w w' : World} {base e n size : Nat} {v : Value} {xs : List Value} (h : w.ownsRow base e size v n xs) (hb : Below w.heap.size w w') : w'.ownsRow base e size v n xs := by
  refine ⟨h.1, ?_⟩
  rcases h.2 with h0 | ⟨g, cap, cur, hv, hbg, hg, hr⟩
  · exact .inl h0
  · exact .inr ⟨g, cap, cur, hv, hbg, (hb.block g (heap_lt hg)).trans hg, hr⟩
theorem own_one (w1 : World) (k : UInt8) : (w1.alloc (.cells #[.int .u8 (k.toNat : Int)] 5)).ownsRow w1.heap.size 5 1 (.slice (some ⟨w1.heap.size, 0, none⟩) 1 1) 1 (cells [k]) :=
  World.ownsRow_lit w1 #[.int .u8 (k.toNat : Int)] 1 (Nat.le_refl _) (by unfold maxLen; omega) rfl
theorem wrote_one (w1 : World) (k : UInt8) : Wrote w1 (w1.alloc (.cells #[.int .u8 (k.toNat : Int)] 5)) [k] (some ⟨w1.heap.size, 0, none⟩) 1 1 :=
  ⟨seen_row (own_one w1 k), rfl, Nat.le_refl _, by omega, below_new _⟩
theorem enc_one (k : Nat) (h : k < 128) : VP.enc k = [UInt8.ofNat k] := by exact VP.enc_small h

set_option maxRecDepth 100000 in
set_option maxHeartbeats 1000000 in
theorem rebytes_no (x : En) (A D : Option Addr) (n c m d B : Nat) (w : World) (hx : EIn w B x A n c D m d) (hB : B ≤ w.heap.size) (hg : ¬ x.Good) :
    Calls Tryz.prog 9 #[.agg (evals x A n c D m d)] w fun e w' => e = .returned (.tuple #[.string ⟨#[]⟩, .int .i64 2]) ∧ Below w.heap.size w w' := by
  obtain ⟨W0, hW0⟩ : ∃ W0, W0 = w.alloc (.cells (evals x A n c D m d) 32) := ⟨_, rfl⟩
  have v0 : Var W0 w.heap.size 32 (evals x A n c D m d) := by rw [hW0]; exact Var.new _ _ _
  have b0 : Below w.heap.size w W0 := by rw [hW0]; exact below_new _
  have HX := Lib.hid (hx.below (b0.mono hB))
  have hB0 := Nat.le_trans hB b0.size
  have HG := Lib.hid hg
  obtain ⟨kind, ⟨pid, ep, sq, tx, rs⟩, yes, nx, off, ⟨ro, rp, rq, rk, rv⟩, ⟨pp, pe, pn, sn⟩⟩ := x
  simp only [evals] at hW0 v0 ⊢
  have HW0 := Lib.hid hW0
  clear hW0 hx hg
  go_enter Tryz.func9, Tryz.ntmps9
  go_upto_region 1 with fail
  rw [← HW0.out]
  go_wp2_with (refine wpList_load_var rfl _ rfl Tryz.underlying32 rfl rfl v0 (by kernel_rfl) ?_)
  refine (ref_emay_any ⟨kind, ⟨pid, ep, sq, tx, rs⟩, yes, nx, off, ⟨ro, rp, rq, rk, rv⟩, ⟨pp, pe, pn, sn⟩⟩ A D n c m d B false W0 HX.out hB0 ⟨by simp, fun h => absurd h HG.out⟩).mono ?_
  rintro e w1 ⟨rfl, hb1⟩
  have b1 := b0.trans (hb1.mono b0.size)
  go_wp2
  go_ret2
  exact ⟨rfl, b1⟩

set_option maxRecDepth 100000 in
set_option maxHeartbeats 1000000 in
theorem rebytes_data (pid ep sq : Int) (tx : Bool) (rs : List Rc) (A D : Option Addr) (n c m d B : Nat) (w : World) (hx : EIn w B (dataE ⟨pid, ep, sq, tx, rs⟩) A n c D m d) (hB : B ≤ w.heap.size) (HG : Hid (En.Good (dataE ⟨pid, ep, sq, tx, rs⟩))) (hgb : Bt.Good ⟨pid, ep, sq, tx, rs⟩) :
    Calls Tryz.prog 9 #[.agg (evals (dataE ⟨pid, ep, sq, tx, rs⟩) A n c D m d)] w fun e w' => e = .returned (.tuple #[.string ⟨(En.enc (dataE ⟨pid, ep, sq, tx, rs⟩)).toArray⟩, .int .i64 0]) ∧ Below w.heap.size w w' := by
  obtain ⟨W0, hW0⟩ : ∃ W0, W0 = w.alloc (.cells (evals (dataE ⟨pid, ep, sq, tx, rs⟩) A n c D m d) 32) := ⟨_, rfl⟩
  have v0 : Var W0 w.heap.size 32 (evals (dataE ⟨pid, ep, sq, tx, rs⟩) A n c D m d) := by rw [hW0]; exact Var.new _ _ _
  have b0 : Below w.heap.size w W0 := by rw [hW0]; exact below_new _
  have HX := Lib.hid (hx.below (b0.mono hB))
  have hB0 := Nat.le_trans hB b0.size
  obtain ⟨s, hs⟩ : ∃ s : ByteArray, s = ⟨(Bt.enc ⟨pid, ep, sq, tx, rs⟩).toArray⟩ := ⟨_, rfl⟩
  have hssz : s.size ≤ 160 := by rw [hs, ← bytesOf_length, bytesOf_mk]; exact Bt.enc_le hgb
  have HS : Hid (bytesOf s = Bt.enc ⟨pid, ep, sq, tx, rs⟩) := by show _ = _; rw [hs, bytesOf_mk]
  have HBI : Hid (BytesIs ⟨pid, ep, sq, tx, rs⟩ s 0) := .inl ⟨hgb, hs, rfl⟩
  clear hs hgb
  obtain ⟨i0, hi, hz0, hz1, hz2⟩ := info_parts u8_info
  have HE : Hid ([0] ++ bytesOf s = En.enc (dataE ⟨pid, ep, sq, tx, rs⟩)) := by show _ = _; simp [HS.out, En.enc, En.body, dataE, enc_one]
  simp only [evals, dataE, noRw, noPd] at hW0 v0 ⊢
  have HW0 := Lib.hid hW0
  clear hW0 hx
  go_enter Tryz.func9, Tryz.ntmps9
  go_upto_region 1 with fail
  rw [← HW0.out]
  go_wp2_with (refine wpList_load_var rfl _ rfl Tryz.underlying32 rfl rfl v0 (by kernel_rfl) ?_)
  refine (ref_emay_any (dataE ⟨pid, ep, sq, tx, rs⟩) A D n c m d B true W0 HX.out hB0 ⟨fun _ => HG.out, fun _ => rfl⟩).mono ?_
  rintro e w1 ⟨rfl, hb1⟩
  have b1 := b0.trans (hb1.mono b0.size)
  have HV := Lib.hid (v0.below hb1 v0.lt)
  have HX1 := Lib.hid (HX.out.below (hb1.mono hB0))
  have hlt := HV.out.lt
  have hB1 : B ≤ w1.heap.size := Nat.le_trans hB0 hb1.size
  have HB1 := Lib.hid b1
  clear v0 HX HW0 hb1 b0 b1 HG
  have d0 := HV.out.cell 0 rfl
  go_upto_region 4 with fail
  refine wp_at (C := fun W => Wrote w1 W [0] (some ⟨w1.heap.size, 0, none⟩) 1 1 ∧ W.ownsRow w1.heap.size 5 1 (.slice (some ⟨w1.heap.size, 0, none⟩) 1 1) 1 (cells [0])) ⟨wrote_one w1 0, own_one w1 0⟩ ?_
  clear d0
  rintro W1 ⟨hw1, ho1⟩
  have vv := HV.out.below hw1.below hlt
  have d0 := vv.cell 0 rfl
  have d1 := vv.cell 1 rfl
  have d2 := vv.cell 2 rfl
  have d3 := vv.cell 3 rfl
  have d4 := vv.cell 4 rfl
  have d5 := vv.cell 5 rfl
  have zz := vv.lt
  clear vv
  have hx1 := HX1.out.below (hw1.below.mono hB1)
  obtain ⟨hlen, hseen, -, hmax, hsz, -, -⟩ := hx1
  simp only [dataE] at hlen hseen hsz
  have HL := Lib.hid hlen
  have HSZ := Lib.hid hsz
  have hB2 := Nat.le_trans hB1 hw1.below.size
  clear hlen hsz
  go_wp2_with fail
  refine (ref_bytes_all A n c B rs pid ep sq tx W1 s 0 HBI.out HL.out hseen hB2 hmax HSZ.out).mono ?_
  rintro e V ⟨rfl, hbv⟩
  have hov := row_below ho1 hbv
  have hbv1 := hw1.below.trans (hbv.mono hw1.below.size)
  clear d0 d1 d2 d3 d4 d5 zz hw1 hseen hmax HL HSZ ho1 hbv HBI hB2
  have hzv := hbv1.size
  go_wp2_with (at_builtin; refine Lib.wpList_append_own_string _ rfl _ _ 58 9 rfl w1.heap.size 5 i0 Tryz.underlying58 Tryz.underlying9 hi hz0 hz1 hz2 _ _ _ rfl hov s rfl ?c3 ?c4 ?c5 ?_)
  case c3 => unfold maxLen; omega
  case c4 => omega
  case c5 => exact hzv
  intro v' W2 hown' hgrow _
  obtain ⟨A2, c2, rfl, hs2, hc2⟩ := own_formN hown'
  have hw2 : Wrote w1 W2 ([0] ++ bytesOf s) A2 c2 (1 + s.size) := ⟨by rw [cells_append, ← strCells_is]; exact hs2, by rw [List.length_append, bytesOf_length]; rfl, hc2, by omega, hbv1.trans (grown_low hgrow hzv (fun r e => (hov.lt r e).1))⟩
  obtain ⟨l2, hl2⟩ : ∃ l2, l2 = 1 + s.size := ⟨_, rfl⟩
  rw [← hl2] at hw2 ⊢
  have hl2b : l2 ≤ 161 := by omega
  clear hl2 hown' hgrow hs2 hc2 hov hbv1 hzv
  have vv := HV.out.below hw2.below hlt
  have d0 := vv.cell 0 rfl
  have zz := vv.lt
  clear vv
  rw [HE.out] at hw2
  have hst := str_now (P := Tryz.prog) hw2.seen 58 9 5 l2 c2 hw2.len Tryz.underlying58 Tryz.underlying5 Tryz.underlying9
  have bf := HB1.out.trans (hw2.below.mono HB1.out.size)
  go_wp2
  go_ret2
  exact ⟨rfl, bf⟩

set_option maxRecDepth 100000 in
set_option maxHeartbeats 1000000 in
theorem rebytes_mark (a b : Nat) (yes : Bool) (A D : Option Addr) (n c m d B : Nat) (w : World) (hx : EIn w B (markE a b yes) A n c D m d) (hB : B ≤ w.heap.size) (HG : Hid (En.Good (markE a b yes))) (hc : a ≤ 8 ∧ b ≤ 100) :
    Calls Tryz.prog 9 #[.agg (evals (markE a b yes) A n c D m d)] w fun e w' => e = .returned (.tuple #[.string ⟨(En.enc (markE a b yes)).toArray⟩, .int .i64 0]) ∧ Below w.heap.size w w' := by
  obtain ⟨W0, hW0⟩ : ∃ W0, W0 = w.alloc (.cells (evals (markE a b yes) A n c D m d) 32) := ⟨_, rfl⟩
  have v0 : Var W0 w.heap.size 32 (evals (markE a b yes) A n c D m d) := by rw [hW0]; exact Var.new _ _ _
  have b0 : Below w.heap.size w W0 := by rw [hW0]; exact below_new _
  have HX := Lib.hid (hx.below (b0.mono hB))
  have hB0 := Nat.le_trans hB b0.size
  obtain ⟨hc1, hc2⟩ := hc
  have HE : Hid ([1] ++ encN [a, b] ++ [flagByte yes] = En.enc (markE a b yes)) := by show _ = _; simp [encN, En.enc, En.body, markE, enc_one]
  simp only [evals, markE, noRw, noPd] at hW0 v0 ⊢
  have HW0 := Lib.hid hW0
  clear hW0 hx
  go_enter Tryz.func9, Tryz.ntmps9
  go_upto_region 1 with fail
  rw [← HW0.out]
  go_wp2_with (refine wpList_load_var rfl _ rfl Tryz.underlying32 rfl rfl v0 (by kernel_rfl) ?_)
  refine (ref_emay_any (markE a b yes) A D n c m d B true W0 HX.out hB0 ⟨fun _ => HG.out, fun _ => rfl⟩).mono ?_
  rintro e w1 ⟨rfl, hb1⟩
  have b1 := b0.trans (hb1.mono b0.size)
  have HV := Lib.hid (v0.below hb1 v0.lt)
  have HX1 := Lib.hid (HX.out.below (hb1.mono hB0))
  have hlt := HV.out.lt
  have hB1 : B ≤ w1.heap.size := Nat.le_trans hB0 hb1.size
  have HB1 := Lib.hid b1
  clear v0 HX HW0 hb1 b0 b1 HG
  have d0 := HV.out.cell 0 rfl
  go_upto_region 4 with fail
  refine wp_at (C := fun W => Wrote w1 W [1] (some ⟨w1.heap.size, 0, none⟩) 1 1 ∧ W.ownsRow w1.heap.size 5 1 (.slice (some ⟨w1.heap.size, 0, none⟩) 1 1) 1 (cells [1])) ⟨wrote_one w1 1, own_one w1 1⟩ ?_
  clear d0
  rintro W1 ⟨hw1, ho1⟩
  clear ho1
  have vv := HV.out.below hw1.below hlt
  have d0 := vv.cell 0 rfl
  have d1 := vv.cell 1 rfl
  have d2 := vv.cell 2 rfl
  have zz := vv.lt
  clear vv
  go_wp2_with fail
  refine (ref_numbers_new [a, b] 2 hw1 rfl (by simp; omega) (by omega) (by omega)).mono ?_
  rintro e W2 ⟨A2, c2, l2, rfl, hw2, hl2⟩
  clear d0 d1 d2 zz hw1
  have vv := HV.out.below hw2.below hlt
  have d0 := vv.cell 0 rfl
  have d6 := vv.cell 6 rfl
  have zz := vv.lt
  clear vv
  go_wp2_with fail
  refine (ref_flag_next hw2 yes (by omega)).mono ?_
  rintro e W3 ⟨A3, c3, l3, rfl, hw3, hl3, -⟩
  clear d0 d6 zz hw2
  have vv := HV.out.below hw3.below hlt
  have d0 := vv.cell 0 rfl
  have zz := vv.lt
  clear vv
  rw [HE.out] at hw3
  have hst := str_now (P := Tryz.prog) hw3.seen 58 9 5 l3 c3 hw3.len Tryz.underlying58 Tryz.underlying5 Tryz.underlying9
  have bf := HB1.out.trans (hw3.below.mono HB1.out.size)
  go_wp2
  go_ret2
  exact ⟨rfl, bf⟩

set_option maxRecDepth 100000 in
set_option maxHeartbeats 1000000 in
theorem rebytes_cut (a : Nat) (A D : Option Addr) (n c m d B : Nat) (w : World) (hx : EIn w B (cutE a) A n c D m d) (hB : B ≤ w.heap.size) (HG : Hid (En.Good (cutE a))) (hc : a ≤ 1048576) :
    Calls Tryz.prog 9 #[.agg (evals (cutE a) A n c D m d)] w fun e w' => e = .returned (.tuple #[.string ⟨(En.enc (cutE a)).toArray⟩, .int .i64 0]) ∧ Below w.heap.size w w' := by
  obtain ⟨W0, hW0⟩ : ∃ W0, W0 = w.alloc (.cells (evals (cutE a) A n c D m d) 32) := ⟨_, rfl⟩
  have v0 : Var W0 w.heap.size 32 (evals (cutE a) A n c D m d) := by rw [hW0]; exact Var.new _ _ _
  have b0 : Below w.heap.size w W0 := by rw [hW0]; exact below_new _
  have HX := Lib.hid (hx.below (b0.mono hB))
  have hB0 := Nat.le_trans hB b0.size
  have HE : Hid ([2] ++ encN [a] = En.enc (cutE a)) := by show _ = _; simp [encN, En.enc, En.body, cutE, enc_one]
  simp only [evals, cutE, noRw, noPd, noBt] at hW0 v0 ⊢
  have HW0 := Lib.hid hW0
  clear hW0 hx
  go_enter Tryz.func9, Tryz.ntmps9
  go_upto_region 1 with fail
  rw [← HW0.out]
  go_wp2_with (refine wpList_load_var rfl _ rfl Tryz.underlying32 rfl rfl v0 (by kernel_rfl) ?_)
  refine (ref_emay_any (cutE a) A D n c m d B true W0 HX.out hB0 ⟨fun _ => HG.out, fun _ => rfl⟩).mono ?_
  rintro e w1 ⟨rfl, hb1⟩
  have b1 := b0.trans (hb1.mono b0.size)
  have HV := Lib.hid (v0.below hb1 v0.lt)
  have HX1 := Lib.hid (HX.out.below (hb1.mono hB0))
  have hlt := HV.out.lt
  have hB1 : B ≤ w1.heap.size := Nat.le_trans hB0 hb1.size
  have HB1 := Lib.hid b1
  clear v0 HX HW0 hb1 b0 b1 HG
  have d0 := HV.out.cell 0 rfl
  go_upto_region 4 with fail
  refine wp_at (C := fun W => Wrote w1 W [2] (some ⟨w1.heap.size, 0, none⟩) 1 1 ∧ W.ownsRow w1.heap.size 5 1 (.slice (some ⟨w1.heap.size, 0, none⟩) 1 1) 1 (cells [2])) ⟨wrote_one w1 2, own_one w1 2⟩ ?_
  clear d0
  rintro W1 ⟨hw1, ho1⟩
  clear ho1
  have vv := HV.out.below hw1.below hlt
  have d0 := vv.cell 0 rfl
  have d8 := vv.cell 8 rfl
  have zz := vv.lt
  clear vv
  go_wp2_with fail
  refine (ref_numbers_new [a] 1 hw1 rfl (by simp; omega) (by omega) (by omega)).mono ?_
  rintro e W2 ⟨A2, c2, l2, rfl, hw2, hl2⟩
  clear d0 d8 zz hw1
  have vv := HV.out.below hw2.below hlt
  have d0 := vv.cell 0 rfl
  have zz := vv.lt
  clear vv
  rw [HE.out] at hw2
  have hst := str_now (P := Tryz.prog) hw2.seen 58 9 5 l2 c2 hw2.len Tryz.underlying58 Tryz.underlying5 Tryz.underlying9
  have bf := HB1.out.trans (hw2.below.mono HB1.out.size)
  go_wp2
  go_ret2
  exact ⟨rfl, bf⟩

set_option maxRecDepth 100000 in
set_option maxHeartbeats 1000000 in
theorem rebytes_copied (pid ep sq : Int) (tx : Bool) (rs : List Rc) (a : Nat) (A D : Option Addr) (n c m d B : Nat) (w : World) (hx : EIn w B (copyE ⟨pid, ep, sq, tx, rs⟩ true a) A n c D m d) (hB : B ≤ w.heap.size) (HG : Hid (En.Good (copyE ⟨pid, ep, sq, tx, rs⟩ true a))) (hgb : Bt.Good ⟨pid, ep, sq, tx, rs⟩) (hc : a ≤ 1048576) :
    Calls Tryz.prog 9 #[.agg (evals (copyE ⟨pid, ep, sq, tx, rs⟩ true a) A n c D m d)] w fun e w' => e = .returned (.tuple #[.string ⟨(En.enc (copyE ⟨pid, ep, sq, tx, rs⟩ true a)).toArray⟩, .int .i64 0]) ∧ Below w.heap.size w w' := by
  obtain ⟨W0, hW0⟩ : ∃ W0, W0 = w.alloc (.cells (evals (copyE ⟨pid, ep, sq, tx, rs⟩ true a) A n c D m d) 32) := ⟨_, rfl⟩
  have v0 : Var W0 w.heap.size 32 (evals (copyE ⟨pid, ep, sq, tx, rs⟩ true a) A n c D m d) := by rw [hW0]; exact Var.new _ _ _
  have b0 : Below w.heap.size w W0 := by rw [hW0]; exact below_new _
  have HX := Lib.hid (hx.below (b0.mono hB))
  have hB0 := Nat.le_trans hB b0.size
  obtain ⟨s, hs⟩ : ∃ s : ByteArray, s = ⟨(Bt.enc ⟨pid, ep, sq, tx, rs⟩).toArray⟩ := ⟨_, rfl⟩
  have hssz : s.size ≤ 160 := by rw [hs, ← bytesOf_length, bytesOf_mk]; exact Bt.enc_le hgb
  have HS : Hid (bytesOf s = Bt.enc ⟨pid, ep, sq, tx, rs⟩) := by show _ = _; rw [hs, bytesOf_mk]
  have HBI : Hid (BytesIs ⟨pid, ep, sq, tx, rs⟩ s 0) := .inl ⟨hgb, hs, rfl⟩
  clear hs hgb
  obtain ⟨i0, hi, hz0, hz1, hz2⟩ := info_parts u8_info
  have HE : Hid ([3] ++ bytesOf s ++ [flagByte true] ++ encN [a] = En.enc (copyE ⟨pid, ep, sq, tx, rs⟩ true a)) := by show _ = _; simp [HS.out, encN, En.enc, En.body, copyE, enc_one]
  simp only [evals, copyE, noRw, noPd] at hW0 v0 ⊢
  have HW0 := Lib.hid hW0
  clear hW0 hx
  go_enter Tryz.func9, Tryz.ntmps9
  go_upto_region 1 with fail
  rw [← HW0.out]
  go_wp2_with (refine wpList_load_var rfl _ rfl Tryz.underlying32 rfl rfl v0 (by kernel_rfl) ?_)
  refine (ref_emay_any (copyE ⟨pid, ep, sq, tx, rs⟩ true a) A D n c m d B true W0 HX.out hB0 ⟨fun _ => HG.out, fun _ => rfl⟩).mono ?_
  rintro e w1 ⟨rfl, hb1⟩
  have b1 := b0.trans (hb1.mono b0.size)
  have HV := Lib.hid (v0.below hb1 v0.lt)
  have HX1 := Lib.hid (HX.out.below (hb1.mono hB0))
  have hlt := HV.out.lt
  have hB1 : B ≤ w1.heap.size := Nat.le_trans hB0 hb1.size
  have HB1 := Lib.hid b1
  clear v0 HX HW0 hb1 b0 b1 HG
  have d0 := HV.out.cell 0 rfl
  go_upto_region 4 with fail
  refine wp_at (C := fun W => Wrote w1 W [3] (some ⟨w1.heap.size, 0, none⟩) 1 1 ∧ W.ownsRow w1.heap.size 5 1 (.slice (some ⟨w1.heap.size, 0, none⟩) 1 1) 1 (cells [3])) ⟨wrote_one w1 3, own_one w1 3⟩ ?_
  clear d0
  rintro W1 ⟨hw1, ho1⟩
  have vv := HV.out.below hw1.below hlt
  have d0 := vv.cell 0 rfl
  have d1 := vv.cell 1 rfl
  have d2 := vv.cell 2 rfl
  have d3 := vv.cell 3 rfl
  have d4 := vv.cell 4 rfl
  have d5 := vv.cell 5 rfl
  have zz := vv.lt
  clear vv
  have hx1 := HX1.out.below (hw1.below.mono hB1)
  obtain ⟨hlen, hseen, -, hmax, hsz, -, -⟩ := hx1
  simp only [copyE] at hlen hseen hsz
  have HL := Lib.hid hlen
  have HSZ := Lib.hid hsz
  have hB2 := Nat.le_trans hB1 hw1.below.size
  clear hlen hsz
  go_wp2_with fail
  refine (ref_bytes_all A n c B rs pid ep sq tx W1 s 0 HBI.out HL.out hseen hB2 hmax HSZ.out).mono ?_
  rintro e V ⟨rfl, hbv⟩
  have hov := row_below ho1 hbv
  have hbv1 := hw1.below.trans (hbv.mono hw1.below.size)
  clear d0 d1 d2 d3 d4 d5 zz hw1 hseen hmax HL HSZ ho1 hbv HBI hB2
  have hzv := hbv1.size
  go_wp2_with (at_builtin; refine Lib.wpList_append_own_string _ rfl _ _ 58 9 rfl w1.heap.size 5 i0 Tryz.underlying58 Tryz.underlying9 hi hz0 hz1 hz2 _ _ _ rfl hov s rfl ?c3 ?c4 ?c5 ?_)
  case c3 => unfold maxLen; omega
  case c4 => omega
  case c5 => exact hzv
  intro v' W2 hown' hgrow _
  obtain ⟨A2, c2, rfl, hs2, hc2⟩ := own_formN hown'
  have hw2 : Wrote w1 W2 ([3] ++ bytesOf s) A2 c2 (1 + s.size) := ⟨by rw [cells_append, ← strCells_is]; exact hs2, by rw [List.length_append, bytesOf_length]; rfl, hc2, by omega, hbv1.trans (grown_low hgrow hzv (fun r e => (hov.lt r e).1))⟩
  obtain ⟨l2, hl2⟩ : ∃ l2, l2 = 1 + s.size := ⟨_, rfl⟩
  rw [← hl2] at hw2 ⊢
  have hl2b : l2 ≤ 161 := by omega
  clear hl2 hown' hgrow hs2 hc2 hov hbv1 hzv
  have vv := HV.out.below hw2.below hlt
  have d0 := vv.cell 0 rfl
  have d6 := vv.cell 6 rfl
  have zz := vv.lt
  clear vv
  go_wp2_with fail
  refine (ref_flag_next hw2 true (by omega)).mono ?_
  rintro e W3 ⟨A3, c3, l3, rfl, hw3, hl3, -⟩
  clear d0 d6 zz hw2
  have vv := HV.out.below hw3.below hlt
  have d0 := vv.cell 0 rfl
  have d6 := vv.cell 6 rfl
  have d7 := vv.cell 7 rfl
  have zz := vv.lt
  clear vv
  go_wp2_with fail
  refine (ref_numbers_new [a] 1 hw3 rfl (by simp; omega) (by omega) (by omega)).mono ?_
  rintro e W4 ⟨A4, c4, l4, rfl, hw4, hl4⟩
  clear d0 d6 d7 zz hw3
  have vv := HV.out.below hw4.below hlt
  have d0 := vv.cell 0 rfl
  have d6 := vv.cell 6 rfl
  have zz := vv.lt
  clear vv
  rw [HE.out] at hw4
  have hst := str_now (P := Tryz.prog) hw4.seen 58 9 5 l4 c4 hw4.len Tryz.underlying58 Tryz.underlying5 Tryz.underlying9
  have bf := HB1.out.trans (hw4.below.mono HB1.out.size)
  go_wp2
  go_ret2
  exact ⟨rfl, bf⟩

set_option maxRecDepth 100000 in
set_option maxHeartbeats 1000000 in
theorem rebytes_copiedno (pid ep sq : Int) (tx : Bool) (rs : List Rc) (a : Nat) (A D : Option Addr) (n c m d B : Nat) (w : World) (hx : EIn w B (copyE ⟨pid, ep, sq, tx, rs⟩ false a) A n c D m d) (hB : B ≤ w.heap.size) (HG : Hid (En.Good (copyE ⟨pid, ep, sq, tx, rs⟩ false a))) (hgb : Bt.Good ⟨pid, ep, sq, tx, rs⟩) :
    Calls Tryz.prog 9 #[.agg (evals (copyE ⟨pid, ep, sq, tx, rs⟩ false a) A n c D m d)] w fun e w' => e = .returned (.tuple #[.string ⟨(En.enc (copyE ⟨pid, ep, sq, tx, rs⟩ false a)).toArray⟩, .int .i64 0]) ∧ Below w.heap.size w w' := by
  obtain ⟨W0, hW0⟩ : ∃ W0, W0 = w.alloc (.cells (evals (copyE ⟨pid, ep, sq, tx, rs⟩ false a) A n c D m d) 32) := ⟨_, rfl⟩
  have v0 : Var W0 w.heap.size 32 (evals (copyE ⟨pid, ep, sq, tx, rs⟩ false a) A n c D m d) := by rw [hW0]; exact Var.new _ _ _
  have b0 : Below w.heap.size w W0 := by rw [hW0]; exact below_new _
  have HX := Lib.hid (hx.below (b0.mono hB))
  have hB0 := Nat.le_trans hB b0.size
  obtain ⟨s, hs⟩ : ∃ s : ByteArray, s = ⟨(Bt.enc ⟨pid, ep, sq, tx, rs⟩).toArray⟩ := ⟨_, rfl⟩
  have hssz : s.size ≤ 160 := by rw [hs, ← bytesOf_length, bytesOf_mk]; exact Bt.enc_le hgb
  have HS : Hid (bytesOf s = Bt.enc ⟨pid, ep, sq, tx, rs⟩) := by show _ = _; rw [hs, bytesOf_mk]
  have HBI : Hid (BytesIs ⟨pid, ep, sq, tx, rs⟩ s 0) := .inl ⟨hgb, hs, rfl⟩
  clear hs hgb
  obtain ⟨i0, hi, hz0, hz1, hz2⟩ := info_parts u8_info
  have HE : Hid ([3] ++ bytesOf s ++ [flagByte false] = En.enc (copyE ⟨pid, ep, sq, tx, rs⟩ false a)) := by show _ = _; simp [HS.out, En.enc, En.body, copyE, enc_one]
  simp only [evals, copyE, noRw, noPd] at hW0 v0 ⊢
  have HW0 := Lib.hid hW0
  clear hW0 hx
  go_enter Tryz.func9, Tryz.ntmps9
  go_upto_region 1 with fail
  rw [← HW0.out]
  go_wp2_with (refine wpList_load_var rfl _ rfl Tryz.underlying32 rfl rfl v0 (by kernel_rfl) ?_)
  refine (ref_emay_any (copyE ⟨pid, ep, sq, tx, rs⟩ false a) A D n c m d B true W0 HX.out hB0 ⟨fun _ => HG.out, fun _ => rfl⟩).mono ?_
  rintro e w1 ⟨rfl, hb1⟩
  have b1 := b0.trans (hb1.mono b0.size)
  have HV := Lib.hid (v0.below hb1 v0.lt)
  have HX1 := Lib.hid (HX.out.below (hb1.mono hB0))
  have hlt := HV.out.lt
  have hB1 : B ≤ w1.heap.size := Nat.le_trans hB0 hb1.size
  have HB1 := Lib.hid b1
  clear v0 HX HW0 hb1 b0 b1 HG
  have d0 := HV.out.cell 0 rfl
  go_upto_region 4 with fail
  refine wp_at (C := fun W => Wrote w1 W [3] (some ⟨w1.heap.size, 0, none⟩) 1 1 ∧ W.ownsRow w1.heap.size 5 1 (.slice (some ⟨w1.heap.size, 0, none⟩) 1 1) 1 (cells [3])) ⟨wrote_one w1 3, own_one w1 3⟩ ?_
  clear d0
  rintro W1 ⟨hw1, ho1⟩
  have vv := HV.out.below hw1.below hlt
  have d0 := vv.cell 0 rfl
  have d1 := vv.cell 1 rfl
  have d2 := vv.cell 2 rfl
  have d3 := vv.cell 3 rfl
  have d4 := vv.cell 4 rfl
  have d5 := vv.cell 5 rfl
  have zz := vv.lt
  clear vv
  have hx1 := HX1.out.below (hw1.below.mono hB1)
  obtain ⟨hlen, hseen, -, hmax, hsz, -, -⟩ := hx1
  simp only [copyE] at hlen hseen hsz
  have HL := Lib.hid hlen
  have HSZ := Lib.hid hsz
  have hB2 := Nat.le_trans hB1 hw1.below.size
  clear hlen hsz
  go_wp2_with fail
  refine (ref_bytes_all A n c B rs pid ep sq tx W1 s 0 HBI.out HL.out hseen hB2 hmax HSZ.out).mono ?_
  rintro e V ⟨rfl, hbv⟩
  have hov := row_below ho1 hbv
  have hbv1 := hw1.below.trans (hbv.mono hw1.below.size)
  clear d0 d1 d2 d3 d4 d5 zz hw1 hseen hmax HL HSZ ho1 hbv HBI hB2
  have hzv := hbv1.size
  go_wp2_with (at_builtin; refine Lib.wpList_append_own_string _ rfl _ _ 58 9 rfl w1.heap.size 5 i0 Tryz.underlying58 Tryz.underlying9 hi hz0 hz1 hz2 _ _ _ rfl hov s rfl ?c3 ?c4 ?c5 ?_)
  case c3 => unfold maxLen; omega
  case c4 => omega
  case c5 => exact hzv
  intro v' W2 hown' hgrow _
  obtain ⟨A2, c2, rfl, hs2, hc2⟩ := own_formN hown'
  have hw2 : Wrote w1 W2 ([3] ++ bytesOf s) A2 c2 (1 + s.size) := ⟨by rw [cells_append, ← strCells_is]; exact hs2, by rw [List.length_append, bytesOf_length]; rfl, hc2, by omega, hbv1.trans (grown_low hgrow hzv (fun r e => (hov.lt r e).1))⟩
  obtain ⟨l2, hl2⟩ : ∃ l2, l2 = 1 + s.size := ⟨_, rfl⟩
  rw [← hl2] at hw2 ⊢
  have hl2b : l2 ≤ 161 := by omega
  clear hl2 hown' hgrow hs2 hc2 hov hbv1 hzv
  have vv := HV.out.below hw2.below hlt
  have d0 := vv.cell 0 rfl
  have d6 := vv.cell 6 rfl
  have zz := vv.lt
  clear vv
  go_wp2_with fail
  refine (ref_flag_next hw2 false (by omega)).mono ?_
  rintro e W3 ⟨A3, c3, l3, rfl, hw3, hl3, -⟩
  clear d0 d6 zz hw2
  have vv := HV.out.below hw3.below hlt
  have d0 := vv.cell 0 rfl
  have d6 := vv.cell 6 rfl
  have zz := vv.lt
  clear vv
  rw [HE.out] at hw3
  have hst := str_now (P := Tryz.prog) hw3.seen 58 9 5 l3 c3 hw3.len Tryz.underlying58 Tryz.underlying5 Tryz.underlying9
  have bf := HB1.out.trans (hw3.below.mono HB1.out.size)
  go_wp2
  go_ret2
  exact ⟨rfl, bf⟩

set_option maxRecDepth 100000 in
set_option maxHeartbeats 1000000 in
theorem rebytes_drop (a b e1 : Nat) (A D : Option Addr) (n c m d B : Nat) (w : World) (hx : EIn w B (dropE a b e1) A n c D m d) (hB : B ≤ w.heap.size) (HG : Hid (En.Good (dropE a b e1))) (hc : a ≤ 8 ∧ b ≤ 100 ∧ e1 ≤ 1048576) :
    Calls Tryz.prog 9 #[.agg (evals (dropE a b e1) A n c D m d)] w fun e w' => e = .returned (.tuple #[.string ⟨(En.enc (dropE a b e1)).toArray⟩, .int .i64 0]) ∧ Below w.heap.size w w' := by
  obtain ⟨W0, hW0⟩ : ∃ W0, W0 = w.alloc (.cells (evals (dropE a b e1) A n c D m d) 32) := ⟨_, rfl⟩
  have v0 : Var W0 w.heap.size 32 (evals (dropE a b e1) A n c D m d) := by rw [hW0]; exact Var.new _ _ _
  have b0 : Below w.heap.size w W0 := by rw [hW0]; exact below_new _
  have HX := Lib.hid (hx.below (b0.mono hB))
  have hB0 := Nat.le_trans hB b0.size
  obtain ⟨hc1, hc2, hc3⟩ := hc
  have HE : Hid ([4] ++ encN [a, b] ++ encN [e1] = En.enc (dropE a b e1)) := by show _ = _; simp [encN, En.enc, En.body, dropE, enc_one]
  simp only [evals, dropE, noRw, noPd] at hW0 v0 ⊢
  have HW0 := Lib.hid hW0
  clear hW0 hx
  go_enter Tryz.func9, Tryz.ntmps9
  go_upto_region 1 with fail
  rw [← HW0.out]
  go_wp2_with (refine wpList_load_var rfl _ rfl Tryz.underlying32 rfl rfl v0 (by kernel_rfl) ?_)
  refine (ref_emay_any (dropE a b e1) A D n c m d B true W0 HX.out hB0 ⟨fun _ => HG.out, fun _ => rfl⟩).mono ?_
  rintro e w1 ⟨rfl, hb1⟩
  have b1 := b0.trans (hb1.mono b0.size)
  have HV := Lib.hid (v0.below hb1 v0.lt)
  have HX1 := Lib.hid (HX.out.below (hb1.mono hB0))
  have hlt := HV.out.lt
  have hB1 : B ≤ w1.heap.size := Nat.le_trans hB0 hb1.size
  have HB1 := Lib.hid b1
  clear v0 HX HW0 hb1 b0 b1 HG
  have d0 := HV.out.cell 0 rfl
  go_upto_region 4 with fail
  refine wp_at (C := fun W => Wrote w1 W [4] (some ⟨w1.heap.size, 0, none⟩) 1 1 ∧ W.ownsRow w1.heap.size 5 1 (.slice (some ⟨w1.heap.size, 0, none⟩) 1 1) 1 (cells [4])) ⟨wrote_one w1 4, own_one w1 4⟩ ?_
  clear d0
  rintro W1 ⟨hw1, ho1⟩
  clear ho1
  have vv := HV.out.below hw1.below hlt
  have d0 := vv.cell 0 rfl
  have d1 := vv.cell 1 rfl
  have d2 := vv.cell 2 rfl
  have zz := vv.lt
  clear vv
  go_wp2_with fail
  refine (ref_numbers_new [a, b] 2 hw1 rfl (by simp; omega) (by omega) (by omega)).mono ?_
  rintro e W2 ⟨A2, c2, l2, rfl, hw2, hl2⟩
  clear d0 d1 d2 zz hw1
  have vv := HV.out.below hw2.below hlt
  have d0 := vv.cell 0 rfl
  have d7 := vv.cell 7 rfl
  have zz := vv.lt
  clear vv
  go_wp2_with fail
  refine (ref_numbers_new [e1] 1 hw2 rfl (by simp; omega) (by omega) (by omega)).mono ?_
  rintro e W3 ⟨A3, c3, l3, rfl, hw3, hl3⟩
  clear d0 d7 zz hw2
  have vv := HV.out.below hw3.below hlt
  have d0 := vv.cell 0 rfl
  have zz := vv.lt
  clear vv
  rw [HE.out] at hw3
  have hst := str_now (P := Tryz.prog) hw3.seen 58 9 5 l3 c3 hw3.len Tryz.underlying58 Tryz.underlying5 Tryz.underlying9
  have bf := HB1.out.trans (hw3.below.mono HB1.out.size)
  go_wp2
  go_ret2
  exact ⟨rfl, bf⟩

set_option maxRecDepth 100000 in
set_option maxHeartbeats 1000000 in
theorem rebytes_row (a b : Nat) (k v : ByteArray) (A D : Option Addr) (n c m d B : Nat) (w : World) (hx : EIn w B (rowE a b k v) A n c D m d) (hB : B ≤ w.heap.size) (HG : Hid (En.Good (rowE a b k v))) (hc : a ≤ 8 ∧ b ≤ 1048576 ∧ k.size ≤ 16 ∧ v.size ≤ 16) :
    Calls Tryz.prog 9 #[.agg (evals (rowE a b k v) A n c D m d)] w fun e w' => e = .returned (.tuple #[.string ⟨(En.enc (rowE a b k v)).toArray⟩, .int .i64 0]) ∧ Below w.heap.size w w' := by
  obtain ⟨W0, hW0⟩ : ∃ W0, W0 = w.alloc (.cells (evals (rowE a b k v) A n c D m d) 32) := ⟨_, rfl⟩
  have v0 : Var W0 w.heap.size 32 (evals (rowE a b k v) A n c D m d) := by rw [hW0]; exact Var.new _ _ _
  have b0 : Below w.heap.size w W0 := by rw [hW0]; exact below_new _
  have HX := Lib.hid (hx.below (b0.mono hB))
  have hB0 := Nat.le_trans hB b0.size
  obtain ⟨hc1, hc2, hc3, hc4⟩ := hc
  have HE : Hid ([5] ++ encN [a, b] ++ (VP.enc k.size ++ bytesOf k) ++ (VP.enc v.size ++ bytesOf v) = En.enc (rowE a b k v)) := by show _ = _; simp [encN, En.enc, En.body, rowE, encRow, enc_one]
  simp only [evals, rowE, noPd, noBt] at hW0 v0 ⊢
  have HW0 := Lib.hid hW0
  clear hW0 hx
  go_enter Tryz.func9, Tryz.ntmps9
  go_upto_region 1 with fail
  rw [← HW0.out]
  go_wp2_with (refine wpList_load_var rfl _ rfl Tryz.underlying32 rfl rfl v0 (by kernel_rfl) ?_)
  refine (ref_emay_any (rowE a b k v) A D n c m d B true W0 HX.out hB0 ⟨fun _ => HG.out, fun _ => rfl⟩).mono ?_
  rintro e w1 ⟨rfl, hb1⟩
  have b1 := b0.trans (hb1.mono b0.size)
  have HV := Lib.hid (v0.below hb1 v0.lt)
  have HX1 := Lib.hid (HX.out.below (hb1.mono hB0))
  have hlt := HV.out.lt
  have hB1 : B ≤ w1.heap.size := Nat.le_trans hB0 hb1.size
  have HB1 := Lib.hid b1
  clear v0 HX HW0 hb1 b0 b1 HG
  have d0 := HV.out.cell 0 rfl
  go_upto_region 4 with fail
  refine wp_at (C := fun W => Wrote w1 W [5] (some ⟨w1.heap.size, 0, none⟩) 1 1 ∧ W.ownsRow w1.heap.size 5 1 (.slice (some ⟨w1.heap.size, 0, none⟩) 1 1) 1 (cells [5])) ⟨wrote_one w1 5, own_one w1 5⟩ ?_
  clear d0
  rintro W1 ⟨hw1, ho1⟩
  clear ho1
  have vv := HV.out.below hw1.below hlt
  have d0 := vv.cell 0 rfl
  have d10 := vv.cell 10 rfl
  have d11 := vv.cell 11 rfl
  have zz := vv.lt
  clear vv
  go_wp2_with fail
  refine (ref_numbers_new [a, b] 2 hw1 rfl (by simp; omega) (by omega) (by omega)).mono ?_
  rintro e W2 ⟨A2, c2, l2, rfl, hw2, hl2⟩
  clear d0 d10 d11 zz hw1
  have vv := HV.out.below hw2.below hlt
  have d0 := vv.cell 0 rfl
  have d12 := vv.cell 12 rfl
  have zz := vv.lt
  clear vv
  go_wp2_with fail
  refine (ref_text_next hw2 k (by omega) (by omega)).mono ?_
  rintro e W3 ⟨A3, c3, l3, rfl, hw3, hl3, -⟩
  clear d0 d12 zz hw2
  have vv := HV.out.below hw3.below hlt
  have d0 := vv.cell 0 rfl
  have d13 := vv.cell 13 rfl
  have zz := vv.lt
  clear vv
  go_wp2_with fail
  refine (ref_text_next hw3 v (by omega) (by omega)).mono ?_
  rintro e W4 ⟨A4, c4, l4, rfl, hw4, hl4, -⟩
  clear d0 d13 zz hw3
  have vv := HV.out.below hw4.below hlt
  have d0 := vv.cell 0 rfl
  have zz := vv.lt
  clear vv
  rw [HE.out] at hw4
  have hst := str_now (P := Tryz.prog) hw4.seen 58 9 5 l4 c4 hw4.len Tryz.underlying58 Tryz.underlying5 Tryz.underlying9
  have bf := HB1.out.trans (hw4.below.mono HB1.out.size)
  go_wp2
  go_ret2
  exact ⟨rfl, bf⟩

set_option maxRecDepth 100000 in
set_option maxHeartbeats 1000000 in
theorem rebytes_state (a b e1 : Nat) (sn : List Sn) (A D : Option Addr) (n c m d B : Nat) (w : World) (hx : EIn w B (stateE ⟨a, b, e1, sn⟩) A n c D m d) (hB : B ≤ w.heap.size) (HG : Hid (En.Good (stateE ⟨a, b, e1, sn⟩))) (hc : a ≤ 8 ∧ b ≤ 100 ∧ e1 ≤ 1048576 ∧ sn.length ≤ 3) (hok : ∀ s ∈ sn, s.Ok ∧ 0 ≤ s.sq ∧ s.sq ≤ (e1 : Int)) :
    Calls Tryz.prog 9 #[.agg (evals (stateE ⟨a, b, e1, sn⟩) A n c D m d)] w fun e w' => e = .returned (.tuple #[.string ⟨(En.enc (stateE ⟨a, b, e1, sn⟩)).toArray⟩, .int .i64 0]) ∧ Below w.heap.size w w' := by
  obtain ⟨W0, hW0⟩ : ∃ W0, W0 = w.alloc (.cells (evals (stateE ⟨a, b, e1, sn⟩) A n c D m d) 32) := ⟨_, rfl⟩
  have v0 : Var W0 w.heap.size 32 (evals (stateE ⟨a, b, e1, sn⟩) A n c D m d) := by rw [hW0]; exact Var.new _ _ _
  have b0 : Below w.heap.size w W0 := by rw [hW0]; exact below_new _
  have HX := Lib.hid (hx.below (b0.mono hB))
  have hB0 := Nat.le_trans hB b0.size
  have hm : sn.length = m := hx.pd.len
  have HM := Lib.hid hm
  have HOK := Lib.hid hok
  obtain ⟨hc1, hc2, hc3, hc4⟩ := hc
  rw [hm] at hc4
  clear hm hok
  have HE : Hid ([6] ++ encN [a, b, e1, m] ++ encSn sn = En.enc (stateE ⟨a, b, e1, sn⟩)) := by show _ = _; simp [← HM.out, Pd.enc, encN, En.enc, En.body, stateE, enc_one]
  simp only [evals, stateE, noRw, noBt] at hW0 v0 ⊢
  have HW0 := Lib.hid hW0
  clear hW0 hx
  go_enter Tryz.func9, Tryz.ntmps9
  go_upto_region 1 with fail
  rw [← HW0.out]
  go_wp2_with (refine wpList_load_var rfl _ rfl Tryz.underlying32 rfl rfl v0 (by kernel_rfl) ?_)
  refine (ref_emay_any (stateE ⟨a, b, e1, sn⟩) A D n c m d B true W0 HX.out hB0 ⟨fun _ => HG.out, fun _ => rfl⟩).mono ?_
  rintro e w1 ⟨rfl, hb1⟩
  have b1 := b0.trans (hb1.mono b0.size)
  have HV := Lib.hid (v0.below hb1 v0.lt)
  have HX1 := Lib.hid (HX.out.below (hb1.mono hB0))
  have hlt := HV.out.lt
  have hB1 : B ≤ w1.heap.size := Nat.le_trans hB0 hb1.size
  have HB1 := Lib.hid b1
  clear v0 HX HW0 hb1 b0 b1 HG
  have d0 := HV.out.cell 0 rfl
  go_upto_region 4 with fail
  refine wp_at (C := fun W => Wrote w1 W [6] (some ⟨w1.heap.size, 0, none⟩) 1 1 ∧ W.ownsRow w1.heap.size 5 1 (.slice (some ⟨w1.heap.size, 0, none⟩) 1 1) 1 (cells [6])) ⟨wrote_one w1 6, own_one w1 6⟩ ?_
  clear d0
  rintro W1 ⟨hw1, ho1⟩
  clear ho1
  have vv := HV.out.below hw1.below hlt
  have d0 := vv.cell 0 rfl
  have d14 := vv.cell 14 rfl
  have d15 := vv.cell 15 rfl
  have d16 := vv.cell 16 rfl
  have d17 := vv.cell 17 rfl
  have zz := vv.lt
  clear vv
  go_wp2_with fail
  refine (ref_numbers_new [a, b, e1, m] 4 hw1 rfl (by simp; omega) (by omega) (by omega)).mono ?_
  rintro e W2 ⟨A2, c2, l2, rfl, hw2, hl2⟩
  clear d0 d14 d15 d16 d17 zz hw1
  have vv := HV.out.below hw2.below hlt
  have d0 := vv.cell 0 rfl
  have zz := vv.lt
  clear vv
  go_wp2_with fail
  clear d0 zz
  go_loopw [4, 7] (fun sv i wr => ∃ (k : Nat) (A1 : Option Addr) (c1 ly : Nat), k ≤ m ∧ i = .int .i64 k ∧ sv = .slice A1 ly c1 ∧ Wrote w1 wr ([6] ++ encN [a, b, e1, m] ++ encSn (sn.take k)) A1 c1 ly ∧ ly ≤ 25 + 18 * k) (fun _ i _ => m - (intOf i).toNat)
  case atStart => exact ⟨0, A2, c2, l2, by omega, rfl, rfl, by simpa [encSn] using hw2, by omega⟩
  case round =>
    clear hw2
    obtain ⟨k, A3, c3, l3, hk, rfl, rfl, hw3, hl3⟩ := hrel
    by_cases hkm : k < m
    · obtain ⟨x, hx⟩ := sn_here HM.out hkm
      obtain ⟨bb, off, hA, hb, p0, p1, p2⟩ := sn_at (HX1.out.below (hw3.below.mono hB1)).pd.seen hx
      subst hA
      have vv := HV.out.below hw3.below hlt
      have d0 := vv.cell 0 rfl
      have d17 := vv.cell 17 rfl
      have zz := vv.lt
      clear vv
      have hbw : bb < wr.heap.size := by have := hw3.below.size; omega
      obtain ⟨⟨⟨q1, q2⟩, q3, q4⟩, q5, q6⟩ := HOK.out x (List.mem_of_getElem? hx)
      have HST := Lib.hid (encSn_step hx)
      obtain ⟨sq, cnt, bs⟩ := x
      simp only at p0 p1 p2 q1 q2 q3 q4 q5 q6
      obtain ⟨x1, rfl⟩ : ∃ x1 : Nat, sq = x1 := ⟨sq.toNat, by omega⟩
      obtain ⟨x2, rfl⟩ : ∃ x2 : Nat, cnt = x2 := ⟨cnt.toNat, by omega⟩
      obtain ⟨x3, hx3⟩ : ∃ x3 : Nat, bs + 1 = x3 := ⟨(bs + 1).toNat, by omega⟩
      obtain rfl : bs = (x3 : Int) - 1 := by omega
      have HE2 : Hid ([6] ++ encN [a, b, e1, m] ++ encSn (sn.take k) ++ encN [x1, x2, x3] = [6] ++ encN [a, b, e1, m] ++ encSn (sn.take (k + 1))) := by
        show _ = _
        rw [HST.out]
        simp [Sn.enc, encN]
      clear hx HST hx3
      go_upto_region 25 with fail
      refine wp_at (C := fun W => Var W wr.heap.size 75 #[.int .i64 (x1 : Int), .int .i64 (x2 : Int), .int .i64 ((x3 : Int) - 1)] ∧ Wrote w1 W ([6] ++ encN [a, b, e1, m] ++ encSn (sn.take k)) A3 c3 l3) ⟨Var.new _ _ _, hw3.next (below_new _)⟩ ?_
      clear p0 p1 p2 d0 d17 zz hw3 hbw hb
      obtain ⟨t, ht⟩ : ∃ t, t = wr.heap.size := ⟨_, rfl⟩
      rw [← ht]
      rintro W3 ⟨v3, hw3⟩
      clear ht
      obtain ⟨d0, d1, d2, -⟩ := v3.cells3
      have z3 := v3.lt
      clear v3
      go_wp2_with fail
      have hcall := ref_numbers_new [x1, x2, x3] 3 hw3 rfl (by simp; omega) (by omega) (by omega)
      refine hcall.mono ?_
      rintro e W4 ⟨A4, c4, l4, rfl, hw4, hl4⟩
      clear d0 d1 d2 z3 hw3 hcall
      rw [HE2.out] at hw4
      go_wp2
      go_roundw
      case rel => exact ⟨k + 1, A4, c4, l4, by omega, by go_num, rfl, hw4, by omega⟩
      case measure => simp [intOf]; omega
    · have hkm2 : k = m := by omega
      subst hkm2
      rw [List.take_of_length_le (by have := HM.out; omega)] at hw3
      rw [HE.out] at hw3
      have vv := HV.out.below hw3.below hlt
      have d17 := vv.cell 17 rfl
      have zz := vv.lt
      clear vv
      have hst := str_now (P := Tryz.prog) hw3.seen 58 9 5 l3 c3 hw3.len Tryz.underlying58 Tryz.underlying5 Tryz.underlying9
      have bf := HB1.out.trans (hw3.below.mono HB1.out.size)
      go_wp2
      go_ret2
      exact ⟨rfl, bf⟩

theorem ref_ebytes_all (x : En) (A D : Option Addr) (n c m d B : Nat) (s : ByteArray) (er : Int) (w : World) (h : EBytesIs x s er) (hx : EIn w B x A n c D m d) (hB : B ≤ w.heap.size) :
    Calls Tryz.prog 9 #[.agg (evals x A n c D m d)] w fun e w' => e = .returned (.tuple #[.string s, .int .i64 er]) ∧ Below w.heap.size w w' := by
  rcases h with ⟨hg, rfl, rfl⟩ | ⟨hg, rfl, rfl⟩
  · have HG := Lib.hid hg
    cases hg with
    | data b hb =>
      obtain ⟨pid, ep, sq, tx, rs⟩ := b
      exact rebytes_data pid ep sq tx rs A D n c m d B w hx hB HG hb
    | mark pid ep yes h =>
      obtain ⟨⟨h1, h2⟩, h3, h4⟩ := h
      obtain ⟨a, rfl⟩ : ∃ a : Nat, pid = a := ⟨pid.toNat, by omega⟩
      obtain ⟨b, rfl⟩ : ∃ a : Nat, ep = a := ⟨ep.toNat, by omega⟩
      exact rebytes_mark a b yes A D n c m d B w hx hB HG ⟨by omega, by omega⟩
    | cut off h =>
      obtain ⟨h1, h2⟩ := h
      obtain ⟨a, rfl⟩ : ∃ a : Nat, off = a := ⟨off.toNat, by omega⟩
      exact rebytes_cut a A D n c m d B w hx hB HG (by omega)
    | copy b yes nx hb ht hn hy2 =>
      obtain ⟨pid, ep, sq, tx, rs⟩ := b
      obtain ⟨h1, h2⟩ := hn
      obtain ⟨a, rfl⟩ : ∃ a : Nat, nx = a := ⟨nx.toNat, by omega⟩
      cases yes with
      | true => exact rebytes_copied pid ep sq tx rs a A D n c m d B w hx hB HG hb (by omega)
      | false => exact rebytes_copiedno pid ep sq tx rs a A D n c m d B w hx hB HG hb
    | drop pid ep nx h hn =>
      obtain ⟨⟨h1, h2⟩, h3, h4⟩ := h
      obtain ⟨h5, h6⟩ := hn
      obtain ⟨a, rfl⟩ : ∃ a : Nat, pid = a := ⟨pid.toNat, by omega⟩
      obtain ⟨b, rfl⟩ : ∃ a : Nat, ep = a := ⟨ep.toNat, by omega⟩
      obtain ⟨e, rfl⟩ : ∃ a : Nat, nx = a := ⟨nx.toNat, by omega⟩
      exact rebytes_drop a b e A D n c m d B w hx hB HG ⟨by omega, by omega, by omega⟩
    | row pid sq k v h =>
      obtain ⟨⟨h1, h2⟩, ⟨h3, h4⟩, h5, h6⟩ := h
      obtain ⟨a, rfl⟩ : ∃ a : Nat, pid = a := ⟨pid.toNat, by omega⟩
      obtain ⟨b, rfl⟩ : ∃ a : Nat, sq = a := ⟨sq.toNat, by omega⟩
      exact rebytes_row a b k v A D n c m d B w hx hB HG ⟨by omega, by omega, by omega, by omega⟩
    | state p hp =>
      obtain ⟨pid, ep, nx, sn⟩ := p
      obtain ⟨⟨⟨h1, h2⟩, h3, h4⟩, ⟨h5, h6⟩, h7, h8⟩ := hp
      simp only at h1 h2 h3 h4 h5 h6 h7 h8
      obtain ⟨a, rfl⟩ : ∃ a : Nat, pid = a := ⟨pid.toNat, by omega⟩
      obtain ⟨b, rfl⟩ : ∃ a : Nat, ep = a := ⟨ep.toNat, by omega⟩
      obtain ⟨e, rfl⟩ : ∃ a : Nat, nx = a := ⟨nx.toNat, by omega⟩
      exact rebytes_state a b e sn A D n c m d B w hx hB HG ⟨by omega, by omega, by omega, h7⟩ (fun s hs => h8.in s hs)
  · exact rebytes_no x A D n c m d B w hx hB hg
end Go.Proofs.YtchpemgamgcbkaaGreat
