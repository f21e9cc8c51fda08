/-
  Contracts of the document's within, producer, MayRow and Known. Conditions: those that each theorem names.
-/
import Derived.Test.YtchpemgamgcbkaaGreatEntRight
import Derived.Test.YtchpemgamgcbkaaGreatEntStore
namespace Go.Proofs.YtchpemgamgcbkaaGreat
open Go.RowKit

theorem ref_within_any (n a b : Int) (m : Bool) (w : World) (hm : m = true ↔ a ≤ n ∧ n ≤ b) :
    Calls Tryz.prog 38 #[.int .i64 n, .int .i64 a, .int .i64 b] w fun e w' => e = .returned (.bool m) ∧ w' = w := by
  have HM := Lib.hid hm
  clear hm
  by_cases h1 : a ≤ n
  · have t1 : decide (a ≤ n) = true := by simpa using h1
    by_cases h2 : n ≤ b
    · have t2 : decide (n ≤ b) = true := by simpa using h2
      obtain rfl : m = true := HM.out.2 ⟨h1, h2⟩
      go_enter Tryz.func38, Tryz.ntmps38
      go_wp2
      go_ret
      exact ⟨rfl, rfl⟩
    · have t2 : decide (n ≤ b) = false := bool_dec _ h2
      obtain rfl : m = false := bool_not HM.out fun h => h2 h.2
      go_enter Tryz.func38, Tryz.ntmps38
      go_wp2
      go_ret
      exact ⟨rfl, rfl⟩
  · have t1 : decide (a ≤ n) = false := bool_dec _ h1
    obtain rfl : m = false := bool_not HM.out fun h => h1 h.1
    go_enter Tryz.func38, Tryz.ntmps38
    go_wp2
    go_ret
    exact ⟨rfl, rfl⟩
theorem ref_named_any (p q : Int) (m : Bool) (w : World) (hm : m = true ↔ Named p q) :
    Calls Tryz.prog 37 #[.int .i64 p, .int .i64 q] w fun e w' => e = .returned (.bool m) ∧ w' = w := by
  have HM := Lib.hid hm
  clear hm
  by_cases h1 : 1 ≤ p
  · by_cases h2 : p ≤ 8
    · by_cases h3 : 0 ≤ q
      · by_cases h4 : q ≤ 100
        · obtain rfl : m = true := HM.out.2 ⟨⟨h1, h2⟩, h3, h4⟩
          go_enter Tryz.func37, Tryz.ntmps37
          go_wp2
          go_ret
          exact ⟨rfl, rfl⟩
        · have t : decide (q ≤ (100 : Int)) = false := bool_dec _ h4
          obtain rfl : m = false := bool_not HM.out fun h => h4 h.2.2
          go_enter Tryz.func37, Tryz.ntmps37
          go_wp2
          go_ret
          exact ⟨rfl, rfl⟩
      · have t : decide ((0 : Int) ≤ q) = false := bool_dec _ h3
        obtain rfl : m = false := bool_not HM.out fun h => h3 h.2.1
        go_enter Tryz.func37, Tryz.ntmps37
        go_wp2
        go_ret
        exact ⟨rfl, rfl⟩
    · have t : decide (p ≤ (8 : Int)) = false := bool_dec _ h2
      obtain rfl : m = false := bool_not HM.out fun h => h2 h.1.2
      go_enter Tryz.func37, Tryz.ntmps37
      go_wp2
      go_ret
      exact ⟨rfl, rfl⟩
  · have t : decide ((1 : Int) ≤ p) = false := bool_dec _ h1
    obtain rfl : m = false := bool_not HM.out fun h => h1 h.1.1
    go_enter Tryz.func37, Tryz.ntmps37
    go_wp2
    go_ret
    exact ⟨rfl, rfl⟩

set_option maxRecDepth 100000 in
theorem ref_mayrow_any (ro pid sq : Int) (k v : ByteArray) (m : Bool) (w : World) (hm : m = true ↔ RowOk pid sq k v) (hk : k.size ≤ 9223372036854775807) (hv : v.size ≤ 9223372036854775807) :
    Calls Tryz.prog 39 #[.agg #[.int .i64 ro, .int .i64 pid, .int .i64 sq, .string k, .string v]] w fun e w' => e = .returned (.bool m) ∧ Below w.heap.size w w' := by
  have HM := Lib.hid hm
  clear hm
  obtain ⟨W0, hW0⟩ : ∃ W0, W0 = w.alloc (.cells #[.int .i64 ro, .int .i64 pid, .int .i64 sq, .string k, .string v] 27) := ⟨_, rfl⟩
  have v0 : Var W0 w.heap.size 27 #[.int .i64 ro, .int .i64 pid, .int .i64 sq, .string k, .string v] := by rw [hW0]; exact Var.new _ _ _
  have b0 : Below w.heap.size w W0 := by rw [hW0]; exact below_new _
  obtain ⟨d0, d1, d2, d3, d4, -⟩ := v0.cells5
  have z0 := v0.lt
  have HW0 := Lib.hid hW0
  clear hW0
  obtain ⟨u1, hu1⟩ := iff_of (1 ≤ pid ∧ pid ≤ 8)
  obtain ⟨u2, hu2⟩ := iff_of (0 ≤ sq ∧ sq ≤ 1048575)
  have HU1 := Lib.hid hu1
  have HU2 := Lib.hid hu2
  clear hu1 hu2
  go_enter Tryz.func39, Tryz.ntmps39
  go_upto_region 1 with fail
  rw [← HW0.out]
  go_wp2_with fail
  refine (ref_within_any pid 1 8 u1 W0 HU1.out).mono ?_
  rintro e w1 ⟨rfl, rfl⟩
  cases u1 with
  | false =>
    obtain rfl : m = false := bool_not HM.out fun h => by have := HU1.out.2 h.1; cases this
    clear HM HU1 HU2
    go_wp2
    go_ret
    exact ⟨rfl, b0⟩
  | true =>
    have hp := HU1.out.1 (by first | rfl | trivial)
    clear HU1
    go_wp2_with fail
    refine (ref_within_any sq 0 1048575 u2 _ HU2.out).mono ?_
    rintro e w1 ⟨rfl, rfl⟩
    cases u2 with
    | false =>
      obtain rfl : m = false := bool_not HM.out fun h => by have := HU2.out.2 h.2.1; cases this
      clear HM HU2
      go_wp2
      go_ret
      exact ⟨rfl, b0⟩
    | true =>
      have hq := HU2.out.1 (by first | rfl | trivial)
      clear HU2
      by_cases h1 : k.size ≤ 16
      · have t1 : decide ((k.size : Int) ≤ 16) = true := by simp; omega
        by_cases h2 : v.size ≤ 16
        · have t2 : decide ((v.size : Int) ≤ 16) = true := by simp; omega
          obtain rfl : m = true := HM.out.2 ⟨hp, hq, h1, h2⟩
          go_wp2
          go_ret
          exact ⟨rfl, b0⟩
        · have t2 : decide ((v.size : Int) ≤ 16) = false := bool_dec _ (by omega)
          obtain rfl : m = false := bool_not HM.out fun h => h2 h.2.2.2
          go_wp2
          go_ret
          exact ⟨rfl, b0⟩
      · have t1 : decide ((k.size : Int) ≤ 16) = false := bool_dec _ (by omega)
        obtain rfl : m = false := bool_not HM.out fun h => h1 h.2.2.1
        go_wp2
        go_ret
        exact ⟨rfl, b0⟩

theorem behind_at {nx : Int} {l : List Sn} {k : Nat} {y : Sn} (h : l[k]? = some y) : behind nx (l.drop k) = y.sq := by
  obtain ⟨hlt, he⟩ := List.getElem?_eq_some_iff.1 h
  rw [List.drop_eq_getElem_cons hlt, he]
  rfl
theorem sn_part {l : List Sn} {k : Nat} {y : Sn} (h : l[k]? = some y) : l.drop k = y :: l.drop (k + 1) := by
  obtain ⟨hlt, he⟩ := List.getElem?_eq_some_iff.1 h
  rw [List.drop_eq_getElem_cons hlt, he]

set_option maxRecDepth 100000 in
set_option maxHeartbeats 2000000 in
theorem ref_known_any (p : Pd) (A : Option Addr) (N c B : Nat) (m : Bool) (w : World) (hp : PIn w B p A N c) (hB : B ≤ w.heap.size) (hm : m = true ↔ p.Good) :
    Calls Tryz.prog 15 #[.agg (pvals p A N c)] w fun e W' => e = .returned (.bool m) ∧ Below w.heap.size w W' := by
  obtain ⟨pid, ep, nx, sns⟩ := p
  have HM := Lib.hid hm
  obtain ⟨hlen, hseen, hcap, hmax⟩ := hp
  simp only at hlen hseen
  have HL := Lib.hid hlen
  clear hm hlen
  simp only [pvals]
  obtain ⟨W0, hW0⟩ : ∃ W0, W0 = w.alloc (.cells #[.int .i64 pid, .int .i64 ep, .int .i64 nx, .slice A N c] 30) := ⟨_, rfl⟩
  have v0 : Var W0 w.heap.size 30 #[.int .i64 pid, .int .i64 ep, .int .i64 nx, .slice A N c] := by rw [hW0]; exact Var.new _ _ _
  have b0 : Below w.heap.size w W0 := by rw [hW0]; exact below_new _
  have hs0 := hseen.below (b0.mono hB)
  have hB0 := Nat.le_trans hB b0.size
  have HW0 := Lib.hid hW0
  clear hW0 hseen
  obtain ⟨d0, d1, d2, d3, -⟩ := v0.cells4
  have z0 := v0.lt
  obtain ⟨u1, hu1⟩ := iff_of (Named pid ep)
  obtain ⟨u2, hu2⟩ := iff_of (0 ≤ nx ∧ nx ≤ 1048576)
  have HU1 := Lib.hid hu1
  have HU2 := Lib.hid hu2
  clear hu1 hu2
  go_enter Tryz.func15, Tryz.ntmps15
  go_upto_region 1 with fail
  rw [← HW0.out]
  go_wp2_with fail
  refine (ref_named_any pid ep u1 W0 HU1.out).mono ?_
  rintro e w1 ⟨rfl, rfl⟩
  cases u1 with
  | false =>
    obtain rfl : m = false := bool_not HM.out fun h => by have := HU1.out.2 h.1; cases this
    clear HM HU1 HU2 HL
    go_wp2
    go_ret
    exact ⟨rfl, b0⟩
  | true =>
    have HNM := Lib.hid (HU1.out.1 (by first | rfl | trivial))
    clear HU1
    go_wp2_with fail
    refine (ref_within_any nx 0 1048576 u2 _ HU2.out).mono ?_
    rintro e w1 ⟨rfl, rfl⟩
    cases u2 with
    | false =>
      obtain rfl : m = false := bool_not HM.out fun h => by have := HU2.out.2 h.2.1; cases this
      clear HM HU2 HL
      go_wp2
      go_ret
      exact ⟨rfl, b0⟩
    | true =>
      obtain ⟨hn1, hn2⟩ := HU2.out.1 (by first | rfl | trivial)
      clear HU2
      by_cases h3 : N ≤ 3
      · have t3 : decide ((3 : Int) < (N : Int)) = false := bool_dec _ (by omega)
        have HMS : Hid (m = true ↔ SnOk nx sns) := by
          show _ ↔ _
          rw [HM.out]
          exact ⟨fun h => h.2.2.2, fun h => ⟨HNM.out, ⟨hn1, hn2⟩, by have := HL.out; simp only; omega, h⟩⟩
        clear HM HNM
        go_wp2_with fail
        go_loopw [3] (fun i wr => ∃ k : Nat, k ≤ N ∧ i = .int .i64 k ∧ Hid (SnOk nx sns ↔ SnOk nx (sns.drop k)) ∧ Below w1.heap.size w1 wr) (fun i _ => N - (intOf i).toNat)
        case atStart => exact ⟨0, by omega, rfl, Iff.rfl, Below.refl _ _⟩
        case round =>
          obtain ⟨k, hk, rfl, HK, hbw⟩ := hrel
          have v1 := v0.below hbw v0.lt
          have bf := b0.trans (hbw.mono b0.size)
          have hs1 := hs0.below (hbw.mono hB0)
          clear d0 d1 d2 d3 z0
          obtain ⟨d0, d1, d2, d3, -⟩ := v1.cells4
          have z0 := v1.lt
          clear d0 d1
          by_cases hlt : k < N
          · obtain ⟨y, hy⟩ := sn_here HL.out hlt
            obtain ⟨bb, off, rfl, hb, p0, p1, p2⟩ := sn_at hs1 hy
            have hbw2 : bb < wr.heap.size := by have := hbw.size; omega
            have HPT := Lib.hid (sn_part hy)
            obtain ⟨sq, cnt, bs⟩ := y
            simp only at p0 p1 p2
            obtain ⟨hh, hhh⟩ : ∃ hh, hh = behind nx (sns.drop (k + 1)) := ⟨_, rfl⟩
            have HHH := Lib.hid hhh
            have HST : Hid (SnOk nx (sns.drop k) ↔ (((1 ≤ cnt ∧ cnt ≤ 4) ∧ (-1 ≤ bs ∧ bs ≤ 1048576)) ∧ 0 ≤ sq ∧ sq + cnt ≤ hh ∧ SnOk nx (sns.drop (k + 1)))) := by
              show _ ↔ _
              rw [HPT.out, HHH.out]
              exact Iff.rfl
            have HHB : Hid (SnOk nx (sns.drop (k + 1)) → 0 ≤ hh ∧ hh ≤ 1048576) := fun h => by
              rw [HHH.out]
              exact ⟨SnOk.behind_pos hn1 h, Int.le_trans (SnOk.behind_le h) hn2⟩
            have hno : ¬ SnOk nx (sns.drop k) → m = false := fun h => bool_not HMS.out fun h' => h (HK.out.1 h')
            have HNO := Lib.hid hno
            clear hhh hy HPT hno
            go_upto_region 8 with fail
            refine wp_at (C := fun W => Var W wr.heap.size 75 #[.int .i64 sq, .int .i64 cnt, .int .i64 bs] ∧ Below w1.heap.size w1 W) ⟨Var.new _ _ _, hbw.alloc hbw.size _⟩ ?_
            have hold : ∀ W, Below w1.heap.size w1 W → W.cell? ⟨w.heap.size, 3, none⟩ = some (.slice (some ⟨bb, off, none⟩) N c) := fun W h => (v0.below h v0.lt).cell 3 rfl
            rintro W2 ⟨vy, bg2⟩
            have bg := b0.trans (bg2.mono b0.size)
            have d3' := hold W2 bg2
            have z3 : w.heap.size < W2.heap.size := Nat.lt_of_lt_of_le v0.lt bg2.size
            obtain ⟨e0, e1, e2, -⟩ := vy.cells3
            have zy := vy.lt
            clear hold d2 d3 z0 v1 p0 p1 p2 hbw2
            by_cases hlast : k + 1 < N
            · obtain ⟨y2, hy2⟩ := sn_here HL.out hlast
              obtain ⟨b2, off2, hA, hb2, r0, r1, r2⟩ := sn_at (hs0.below (bg2.mono hB0)) hy2
              simp only [Option.some.injEq, Addr.mk.injEq, and_true] at hA
              obtain ⟨rfl, rfl⟩ := hA
              have hb2w : bb < W2.heap.size := by have := bg2.size; omega
              obtain rfl : hh = y2.sq := by rw [HHH.out]; exact behind_at hy2
              obtain ⟨hh, cnt2, bs2⟩ := y2
              simp only at r0 HST HHB HHH
              clear hy2 r1 r2
              have ucmp : decide ((k : Int) + 1 < (N : Int)) = true := by simp; omega
              by_cases h1 : 0 ≤ sq
              · have u1 : decide (sq < (0 : Int)) = false := bool_dec _ (by omega)
                obtain ⟨m1, hm1⟩ := iff_of (1 ≤ cnt ∧ cnt ≤ 4)
                have HM1 := Lib.hid hm1
                clear hm1
                go_wp2_with fail
                refine (ref_within_any cnt 1 4 m1 _ HM1.out).mono ?_
                rintro e w3 ⟨rfl, rfl⟩
                cases m1 with
                | false =>
                  obtain rfl : m = false := HNO.out fun h => by have := HM1.out.2 (HST.out.1 h).1.1; cases this
                  clear HNO HST HHB HM1 HMS HK HL HHH
                  go_wp2
                  go_ret
                  exact ⟨rfl, bg⟩
                | true =>
                  have hc := HM1.out.1 (by first | rfl | trivial)
                  obtain ⟨m2, hm2⟩ := iff_of (-1 ≤ bs ∧ bs ≤ 1048576)
                  have HM2 := Lib.hid hm2
                  clear hm2
                  go_wp2_with fail
                  refine (ref_within_any bs (-1) 1048576 m2 _ HM2.out).mono ?_
                  rintro e w3 ⟨rfl, rfl⟩
                  cases m2 with
                  | false =>
                    obtain rfl : m = false := HNO.out fun h => by have := HM2.out.2 (HST.out.1 h).1.2; cases this
                    clear HNO HST HHB HM1 HM2 HMS HK HL HHH
                    go_wp2
                    go_ret
                    exact ⟨rfl, bg⟩
                  | true =>
                    have hbs := HM2.out.1 (by first | rfl | trivial)
                    clear HM1 HM2
                    obtain ⟨df, hdf⟩ : ∃ df, df = wrap64 (hh - cnt) := ⟨_, rfl⟩
                    have HDF := Lib.hid hdf
                    by_cases h4 : sq ≤ df
                    · have u4 : decide (df < sq) = false := bool_dec _ (by omega)
                      have HK2 : Hid (SnOk nx sns ↔ SnOk nx (sns.drop (k + 1))) := by
                        show _ ↔ _
                        rw [HK.out, HST.out]
                        refine ⟨fun h => h.2.2.2, fun h => ⟨⟨hc, hbs⟩, h1, ?_, h⟩⟩
                        obtain ⟨a1, a2⟩ := HHB.out h
                        have e : wrap64 (hh - cnt) = hh - cnt := by unfold wrap64; omega
                        rw [HDF.out, e] at h4
                        omega
                      clear HNO HST HHB HK HHH
                      rw [HDF.out] at u4
                      clear hdf
                      go_wp2
                      go_roundw
                      case rel => exact ⟨k + 1, by omega, by go_num, HK2, bg2⟩
                      case measure => simp [intOf]; omega
                    · have u4 : decide (df < sq) = true := by simp; omega
                      obtain rfl : m = false := HNO.out fun h => by
                        obtain ⟨-, -, a3, a4⟩ := HST.out.1 h
                        obtain ⟨a1, a2⟩ := HHB.out a4
                        have e : wrap64 (hh - cnt) = hh - cnt := by unfold wrap64; omega
                        rw [HDF.out, e] at h4
                        omega
                      rw [HDF.out] at u4
                      clear HNO HST HHB HMS HK HL HHH hdf
                      go_wp2
                      go_ret
                      exact ⟨rfl, bg⟩
              · have u1 : decide (sq < (0 : Int)) = true := by simp; omega
                obtain rfl : m = false := HNO.out fun h => h1 (HST.out.1 h).2.1
                clear HNO HST HHB HMS HK HL HHH
                go_wp2
                go_ret
                exact ⟨rfl, bg⟩
            · obtain rfl : nx = hh := by rw [HHH.out, List.drop_of_length_le (by have := HL.out; omega)]; rfl
              have ucmp : decide ((k : Int) + 1 < (N : Int)) = false := bool_dec _ (by omega)
              by_cases h1 : 0 ≤ sq
              · have u1 : decide (sq < (0 : Int)) = false := bool_dec _ (by omega)
                obtain ⟨m1, hm1⟩ := iff_of (1 ≤ cnt ∧ cnt ≤ 4)
                have HM1 := Lib.hid hm1
                clear hm1
                go_wp2_with fail
                refine (ref_within_any cnt 1 4 m1 _ HM1.out).mono ?_
                rintro e w3 ⟨rfl, rfl⟩
                cases m1 with
                | false =>
                  obtain rfl : m = false := HNO.out fun h => by have := HM1.out.2 (HST.out.1 h).1.1; cases this
                  clear HNO HST HHB HM1 HMS HK HL HHH
                  go_wp2
                  go_ret
                  exact ⟨rfl, bg⟩
                | true =>
                  have hc := HM1.out.1 (by first | rfl | trivial)
                  obtain ⟨m2, hm2⟩ := iff_of (-1 ≤ bs ∧ bs ≤ 1048576)
                  have HM2 := Lib.hid hm2
                  clear hm2
                  go_wp2_with fail
                  refine (ref_within_any bs (-1) 1048576 m2 _ HM2.out).mono ?_
                  rintro e w3 ⟨rfl, rfl⟩
                  cases m2 with
                  | false =>
                    obtain rfl : m = false := HNO.out fun h => by have := HM2.out.2 (HST.out.1 h).1.2; cases this
                    clear HNO HST HHB HM1 HM2 HMS HK HL HHH
                    go_wp2
                    go_ret
                    exact ⟨rfl, bg⟩
                  | true =>
                    have hbs := HM2.out.1 (by first | rfl | trivial)
                    clear HM1 HM2
                    obtain ⟨df, hdf⟩ : ∃ df, df = wrap64 (nx - cnt) := ⟨_, rfl⟩
                    have HDF := Lib.hid hdf
                    by_cases h4 : sq ≤ df
                    · have u4 : decide (df < sq) = false := bool_dec _ (by omega)
                      have HK2 : Hid (SnOk nx sns ↔ SnOk nx (sns.drop (k + 1))) := by
                        show _ ↔ _
                        rw [HK.out, HST.out]
                        refine ⟨fun h => h.2.2.2, fun h => ⟨⟨hc, hbs⟩, h1, ?_, h⟩⟩
                        obtain ⟨a1, a2⟩ := HHB.out h
                        have e : wrap64 (nx - cnt) = nx - cnt := by unfold wrap64; omega
                        rw [HDF.out, e] at h4
                        omega
                      clear HNO HST HHB HK HHH
                      rw [HDF.out, show wrap64 (nx - cnt) = nx - cnt by unfold wrap64; omega] at u4
                      clear hdf
                      go_wp2
                      go_roundw
                      case rel => exact ⟨k + 1, by omega, by go_num, HK2, bg2⟩
                      case measure => simp [intOf]; omega
                    · have u4 : decide (df < sq) = true := by simp; omega
                      obtain rfl : m = false := HNO.out fun h => by
                        obtain ⟨-, -, a3, a4⟩ := HST.out.1 h
                        obtain ⟨a1, a2⟩ := HHB.out a4
                        have e : wrap64 (nx - cnt) = nx - cnt := by unfold wrap64; omega
                        rw [HDF.out, e] at h4
                        omega
                      rw [HDF.out, show wrap64 (nx - cnt) = nx - cnt by unfold wrap64; omega] at u4
                      clear HNO HST HHB HMS HK HL HHH hdf
                      go_wp2
                      go_ret
                      exact ⟨rfl, bg⟩
              · have u1 : decide (sq < (0 : Int)) = true := by simp; omega
                obtain rfl : m = false := HNO.out fun h => h1 (HST.out.1 h).2.1
                clear HNO HST HHB HMS HK HL HHH
                go_wp2
                go_ret
                exact ⟨rfl, bg⟩
          · have hkN : k = N := by omega
            subst hkN
            obtain rfl : m = true := HMS.out.2 (HK.out.2 (by rw [List.drop_of_length_le (by have := HL.out; omega)]; trivial))
            clear HK HMS HL
            go_wp2
            go_ret
            exact ⟨rfl, bf⟩
      · have t3 : decide ((3 : Int) < (N : Int)) = true := by simp; omega
        obtain rfl : m = false := bool_not HM.out fun h => by have h1 := h.2.2.1; have h2 := HL.out; simp only at h1; omega
        clear HM HL HNM
        go_wp2
        go_ret
        exact ⟨rfl, b0⟩
end Go.Proofs.YtchpemgamgcbkaaGreat
