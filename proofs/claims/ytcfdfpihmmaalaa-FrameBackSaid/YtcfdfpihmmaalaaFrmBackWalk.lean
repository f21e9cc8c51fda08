/-
  The walk over FrameBack: it returns true and turns nothing that was there. Condition: what is said of the slice that came in.
-/
import Derived.Test.YtcfdfpihmmaalaaFrmAny
import Derived.Test.YtcfdfpihmmaalaaFrmRows
import Derived.Test.YtcfdfpihmmaalaaFrmLawPlain
import Derived.IntWalk
namespace Go.Proofs.Ytcfdfpihmmaalaa
open Go.RowKit

theorem int_eq' {k : IntKind} {a b : Int} (h : a = b) : Value.int k a = .int k b := by rw [h]
theorem int_info : (Try.prog.info? 3).map (fun i => (i.zero, i.size, i.bytes)) = some (some (.int .i64 0), 1, 8) := by kernel_rfl
/-- Where the first j frames end, as cells. -/
def ends (xs : List (List UInt8)) (j : Nat) : List Value := (List.range (j + 1)).map fun i => .int .i64 ((FP.sum (xs.take i) : Nat) : Int)
theorem ends_succ (xs : List (List UInt8)) (j : Nat) : ends xs (j + 1) = ends xs j ++ [.int .i64 ((FP.sum (xs.take (j + 1)) : Nat) : Int)] := by
  unfold ends
  rw [List.range_succ, List.map_append]
  rfl
theorem ends_at (xs : List (List UInt8)) {i j : Nat} (h : i ≤ j) : (ends xs j)[i]? = some (.int .i64 ((FP.sum (xs.take i) : Nat) : Int)) := by
  simp [ends, show i < j + 1 by omega]

theorem cut_is (cut : Int) (n : Nat) (hn : n ≤ 10000) : ∃ c : Nat, (wrap64 (wrap64 (cut.tmod ((n : Int) + 1) + (n : Int)) + 1)).tmod ((n : Int) + 1) = (c : Int) ∧ c ≤ n := by
  have hp : (0 : Int) < (n : Int) + 1 := by omega
  have h1 := Int.tmod_lt_of_pos cut hp
  have h2 := Int.lt_tmod_of_pos cut hp
  obtain ⟨r, hr⟩ : ∃ r, r = cut.tmod ((n : Int) + 1) := ⟨_, rfl⟩
  rw [← hr] at h1 h2 ⊢
  have e1 : wrap64 (r + (n : Int)) = r + (n : Int) := by unfold wrap64; omega
  have e2 : wrap64 (r + (n : Int) + 1) = r + (n : Int) + 1 := by unfold wrap64; omega
  rw [e1, e2]
  have h3 := Int.tmod_lt_of_pos (r + (n : Int) + 1) hp
  have h4 : 0 ≤ (r + (n : Int) + 1).tmod ((n : Int) + 1) := Int.tmod_nonneg _ (by omega)
  exact ⟨((r + (n : Int) + 1).tmod ((n : Int) + 1)).toNat, by omega, by omega⟩

set_option maxRecDepth 100000 in
set_option maxHeartbeats 4000000 in
theorem back_in (A : Option Addr) (ca la : Nat) (xs : List (List UInt8)) (cut : Int) (w : World) (hla : la = xs.length) (hsa : Seen w w.heap.size A (strs xs))
    (hxs : ∀ x ∈ xs, x.length ≤ maxLen) (hma : la ≤ 140737488351232) (hca : la ≤ ca) :
    Calls Try.prog 4 #[.slice A la ca, .int .i64 cut] w fun e w' => e = .returned (.bool true) ∧ Below w.heap.size w w' := by
  obtain ⟨i0, hi, hz0, hz1, hz2⟩ := info_parts int_info
  have HLA := Lib.hid hla
  have HXS := Lib.hid hxs
  clear hla hxs
  go_enter Try.func4, Try.ntmps4
  go_wp2_with fail
  go_loop [5, 6] (fun n i => ∃ j : Nat, j ≤ la ∧ j ≤ 61 ∧ i = .int .i64 (j : Int) ∧ n = .int .i64 (FP.cap7 (xs.take j) : Nat) ∧ ∀ x ∈ xs.take j, x.length ≤ 1024) (fun _ i => 61 - (intOf i).toNat)
  case atStart => exact ⟨0, by omega, by omega, rfl, rfl, by simp⟩
  case round =>
    obtain ⟨j, hj, hj61, rfl, hn, hall⟩ := hrel
    obtain ⟨m, hm⟩ : ∃ m, m = FP.cap7 (xs.take j) := ⟨_, rfl⟩
    have hmle : m ≤ 7000 * 61 := by have := FP.cap7_take xs j; omega
    rw [← hm] at hn
    subst hn
    have HM := Lib.hid hm
    have HALL := Lib.hid hall
    clear hm hall
    by_cases hgo : j < la ∧ j ≤ 60
    · obtain ⟨hg1, hg2⟩ := hgo
      have hjl : j < xs.length := by rw [← HLA.out]; exact hg1
      obtain ⟨bb, off, rfl, hbl, hcell⟩ := seen_at hsa hjl
      have hnext : m + min (str xs[j]).size 7000 = FP.cap7 (xs.take (j + 1)) := by rw [str_size, FP.cap7_snoc hjl, ← HM.out]
      have hsm : (str xs[j]).size ≤ maxLen := by rw [str_size]; exact HXS.out _ (List.getElem_mem hjl)
      unfold maxLen at hsm
      have hall2 : (str xs[j]).size ≤ 1024 → ∀ x ∈ xs.take (j + 1), x.length ≤ 1024 := fun h => FP.take_all HALL.out hjl (by rw [← str_size]; exact h)
      obtain ⟨sj, hsj⟩ : ∃ sj, sj = str xs[j] := ⟨_, rfl⟩
      rw [← hsj] at hcell hnext hsm hall2
      have HNX := Lib.hid hnext
      have HA2 := Lib.hid hall2
      clear hsj hnext hall2
      by_cases hx : sj.size ≤ 1024
      · have hd : decide ((1024 : Int) < (sj.size : Int)) = false := bool_dec _ (by omega)
        go_wp2
        go_round
        case rel => exact ⟨j + 1, by omega, by omega, by go_num, int_eq' (by rw [← HNX.out]; omega), HA2.out hx⟩
        case measure => simp [intOf]; omega
      · have hd : decide ((1024 : Int) < (sj.size : Int)) = true := by simp; omega
        go_wp2_with fail
        refine (wakes_any _).mono ?_
        rintro e w1 ⟨rfl, hb⟩
        go_wp2
        go_ret
        exact ⟨rfl, hb⟩
    · by_cases hA : 60 < la
      · have hstep : ¬ j < la ∨ (j < la ∧ decide ((j : Int) ≤ 60) = false) := by
          rcases Nat.lt_or_ge j la with h | h
          · exact .inr ⟨h, bool_dec _ (by omega)⟩
          · exact .inl (by omega)
        have h3 : decide ((60 : Int) < (la : Int)) = true := by simp; omega
        clear hgo hA
        rcases hstep with h1 | ⟨h1, h2⟩
        · go_wp2_with fail
          refine (wakes_any _).mono ?_
          rintro e w1 ⟨rfl, hb⟩
          go_wp2
          go_ret
          exact ⟨rfl, hb⟩
        · go_wp2_with fail
          refine (wakes_any _).mono ?_
          rintro e w1 ⟨rfl, hb⟩
          go_wp2
          go_ret
          exact ⟨rfl, hb⟩
      · obtain rfl : la = j := by omega
        have h3 : decide ((60 : Int) < (la : Int)) = false := bool_dec _ (by omega)
        have h60 : la ≤ 60 := by omega
        clear hgo hA
        by_cases hB : 6000 < m
        · have h5 : decide ((6000 : Int) < (m : Int)) = true := by simp; omega
          clear hB
          go_wp2_with fail
          refine (wakes_any _).mono ?_
          rintro e w1 ⟨rfl, hb⟩
          go_wp2
          go_ret
          exact ⟨rfl, hb⟩
        · have h5 : decide ((6000 : Int) < (m : Int)) = false := bool_dec _ (by omega)
          have hlx : xs.take la = xs := List.take_of_length_le (by rw [← HLA.out]; exact Nat.le_refl _)
          have hm6 : FP.cap7 xs ≤ 6000 := by rw [← hlx, ← HM.out]; omega
          have hall : ∀ x ∈ xs, x.length ≤ 1024 := by have := HALL.out; rwa [hlx] at this
          obtain ⟨_, hxsum⟩ := FP.cap7_small (ls := xs) hm6
          rw [← HLA.out] at hxsum
          have hsum : FP.sum xs ≤ 6240 := by omega
          have HAX := Lib.hid hall
          clear hB hm6 hxsum hall hlx HALL HXS
          go_wp2_with fail
          have hown0 : (w.alloc (.cells #[.int .i64 0] 3)).ownsRow w.heap.size 3 1 (.slice (some ⟨w.heap.size, 0, none⟩) 1 1) 1 (ends xs 0) :=
            ⟨rfl, .inr ⟨w.heap.size, 1, _, rfl, Nat.le_refl _, heap_alloc_new w _, Nat.le_refl _, by unfold maxLen; omega, rfl, rfl⟩⟩
          have hb0 : Below w.heap.size w (w.alloc (.cells #[.int .i64 0] 3)) := (Below.refl _ _).alloc (Nat.le_refl _) _
          go_loopw [7, 8, 9] (fun t v i wr => ∃ j : Nat, j ≤ la ∧ i = .int .i64 (j : Int) ∧ t = .string (str (FP.flat (xs.take j))) ∧ wr.ownsRow w.heap.size 3 1 v (j + 1) (ends xs j) ∧ Below w.heap.size w wr) (fun _ _ i _ => la - (intOf i).toNat)
          case atStart => exact ⟨0, by omega, rfl, rfl, hown0, hb0⟩
          case round =>
            obtain ⟨j, hj, rfl, ht, hown, hb⟩ := hrel
            obtain ⟨A2, c2, rfl, hse, hc2⟩ := own_form hown
            obtain ⟨t, htt⟩ : ∃ t, t = str (FP.flat (xs.take j)) := ⟨_, rfl⟩
            have hts : t.size ≤ 6240 := by rw [htt, str_size, FP.flat_length]; have := FP.sum_take_le xs j; omega
            rw [← htt] at ht
            subst ht
            have HT := Lib.hid htt
            clear htt hown0 hb0
            by_cases hlt : j < la
            · have hjl : j < xs.length := by rw [← HLA.out]; exact hlt
              obtain ⟨bb, off, rfl, hbl, hcell0⟩ := seen_at hsa hjl
              have hcell := (hb.cell (p := ⟨bb, off + j, none⟩) hbl).trans hcell0
              have hx : (str xs[j]).size ≤ 1024 := by rw [str_size]; exact HAX.out _ (List.getElem_mem hjl)
              obtain ⟨sj, hsj⟩ : ∃ sj, sj = str xs[j] := ⟨_, rfl⟩
              have hbs : bytesOf sj = xs[j] := by rw [hsj, bytesOf_str]
              rw [← hsj] at hcell hx
              obtain ⟨sb, hsb⟩ : ∃ sb, sb = str (FP.enc (bytesOf sj)) := ⟨_, rfl⟩
              have hsbs : sb.size = sj.size + 4 := by rw [hsb, str_size, FP.enc_length, bytesOf_length]
              have hnext : t ++ sb = str (FP.flat (xs.take (j + 1))) := by rw [HT.out, hsb, ← str_append, hbs, ← FP.flat_take hjl]
              have hnsz : (t ++ sb).size = FP.sum (xs.take (j + 1)) := by rw [hnext, str_size, FP.flat_length]
              have hby : ∀ W, Calls Try.prog 8 #[.string sj] W fun e w' => e = .returned (.tuple #[.string sb, .int .i64 0]) ∧ Below W.heap.size W w' := fun W => by rw [hsb]; exact bytes_yes sj W hx
              have HNX := Lib.hid hnext
              have HNS := Lib.hid hnsz
              have HBY := Lib.hid hby
              have HSS := Lib.hid hsbs
              have hsb2 : sb.size ≤ 1100 := by omega
              clear hcell0 hsj hbs hsb hnext hnsz hby hsbs
              go_wp2_with fail
              refine (HBY.out _).mono ?_
              rintro e w2 ⟨rfl, h2⟩
              have hb3 : Below w.heap.size w w2 := hb.trans (h2.mono hb.size)
              have hown2 := own_below hown h2
              have hcell2 : w2.cell? ⟨bb, off + j, none⟩ = some (.string sj) := (hb3.cell (p := ⟨bb, off + j, none⟩) hbl).trans (by have := hb.cell (p := ⟨bb, off + j, none⟩) hbl; rw [hcell] at this; exact this.symm)
              clear hcell
              go_wp2_with fail
              refine (size_yes sj.size _ hx).mono ?_
              rintro e w3 ⟨rfl, rfl⟩
              have hq : (sb.size : Int) = (sj.size : Int) + 4 := by have := HSS.out; omega
              go_wp2_with (at_builtin; refine wpList_append_own _ rfl _ _ 35 rfl w.heap.size 3 i0 (.int .i64 0) 1 8 Try.underlying35 hi hz0 hz1 hz2 rfl (by decide) _ _ _ rfl (hown2.alloc _) ⟨w2.heap.size, 0, none⟩ 1 1 [.int .i64 ((t.size : Int) + ((sj.size : Int) + 4))] rfl rfl ?c1 ?c2 ?c3 ?c4 ?c5 ?_)
              case c1 => exact cell_one_new _ _ _
              case c2 => intro u hu; simp at hu; subst hu; rfl
              case c3 => unfold maxLen; omega
              case c4 => omega
              case c5 => have := hb3.size; simp; omega
              intro v' w3 hown3 hgrow _
              have hb4 : Below w.heap.size w w3 := (hb3.alloc hb3.size _).grown hgrow (by have := hb3.size; simp; omega) (fun k hk => (hown2.lt k hk).1)
              have hown4 : w3.ownsRow w.heap.size 3 1 v' (j + 1 + 1) (ends xs (j + 1)) := by
                rw [ends_succ, ← HNS.out]
                rw [show ((t.size : Int) + ((sj.size : Int) + 4)) = (((t ++ sb).size : Nat) : Int) by rw [ByteArray.size_append]; omega] at hown3
                exact hown3
              clear hgrow hown3 hown2 hown hse hcell2 hb hb3 h2
              have HQ := Lib.hid hq
              clear hq
              go_wp2
              go_roundw
              case rel => exact ⟨j + 1, by omega, by go_num, by rw [HNX.out], hown4, hb4⟩
              case measure => simp [intOf]; omega
            · obtain rfl : la = j := by omega
              have hlx : xs.take la = xs := List.take_of_length_le (by rw [← HLA.out]; exact Nat.le_refl _)
              have ht : t = str (FP.flat xs) := by rw [HT.out, hlx]
              have hbt : bytesOf t = FP.flat xs := by rw [ht, bytesOf_str]
              have htz : t.size = FP.sum xs := by rw [ht, str_size, FP.flat_length]
              have hall := fun W => all_any t (by omega) W
              have hwh := fun W => whole_any t (by omega) W
              rw [hbt, FP.rows_all HAX.out, FP.torn_all HAX.out, ← HLA.out] at hall
              rw [hbt, FP.torn_all HAX.out] at hwh
              have hwh' : ∀ W, Calls Try.prog 17 #[.string t] W fun e W' => e = .returned (.bool true) ∧ Below W.heap.size W W' := hwh
              have HALL := Lib.hid hall
              have HWH := Lib.hid hwh'
              have HBT := Lib.hid hbt
              have HTZ := Lib.hid htz
              clear hall hwh hwh' hbt htz hlx ht HT hlt hj hown
              have hsa2 := (hsa.below hb).up hb.size
              go_wp2_with fail
              refine (HALL.out _).mono ?_
              rintro e w2 ⟨A3, c3, rfl, hs3, hc3, h2⟩
              have hb2 : Below w.heap.size w w2 := hb.trans (h2.mono hb.size)
              have hse2 := (hse.below h2).up h2.size
              have hsa3 := (hsa2.below h2).up h2.size
              clear hb hse hsa2 h2
              go_wp2_with fail
              refine (same_any A A3 ca c3 la la xs xs _ HLA.out HLA.out hsa3 hs3 (by omega) (by omega)).mono ?_
              rintro e w3 ⟨rfl, q, rfl⟩
              rw [show decide (xs = xs) = true from decide_eq_true rfl]
              have hb3 : Below w.heap.size w (w2.drewN q) := below_drewN hb2 q
              go_wp2_with fail
              refine (HWH.out _).mono ?_
              rintro e w4 ⟨rfl, h4⟩
              have hb4 : Below w.heap.size w w4 := hb3.trans (h4.mono hb2.size)
              have hsa4 : Seen w4 w4.heap.size A (strs xs) := ((show Seen (w2.drewN q) w2.heap.size A (strs xs) from hsa3).below h4).up h4.size
              have hse4 : Seen w4 w4.heap.size A2 (ends xs la) := ((show Seen (w2.drewN q) w2.heap.size A2 (ends xs la) from hse2).below h4).up h4.size
              clear hb2 hb3 h4 hsa3 hse2 hs3
              obtain ⟨c, hc, hcN⟩ := cut_is cut t.size (by omega)
              go_wp2_with fail
              clear hc
              go_loop [14] (fun i => ∃ j : Nat, j ≤ la ∧ i = .int .i64 (j : Int) ∧ FP.sum (xs.take j) ≤ c) (fun i => la - (intOf i).toNat)
              case atStart => exact ⟨0, by omega, rfl, by simp [FP.sum]⟩
              case round =>
                obtain ⟨j, hj, rfl, hjc⟩ := hrel
                obtain ⟨be, oe, rfl, hbe, hce⟩ := hse4 (by simp [ends])
                have hcj : w4.cell? ⟨be, oe + j, none⟩ = some (.int .i64 ((FP.sum (xs.take j) : Nat) : Int)) := hce j _ (ends_at xs hj)
                obtain ⟨sj, hsj⟩ : ∃ sj, sj = FP.sum (xs.take j) := ⟨_, rfl⟩
                rw [← hsj] at hcj hjc
                have HJL : Hid (j = (xs.take j).length) := by show _ = _; rw [List.length_take, ← HLA.out]; omega
                have hbx : bytesOf (t.extract 0 c) = (FP.flat xs).take c := by rw [bytesOf_extract, List.drop_zero, Nat.sub_zero, HBT.out]
                have hesz : (t.extract 0 c).size ≤ 1000000 := by rw [extract_size _ _ _ (by omega) hcN]; omega
                have hfin : (j < la → c < FP.sum (xs.take (j + 1))) → FP.rows (bytesOf (t.extract 0 c)) = xs.take j ∧ FP.torn (bytesOf (t.extract 0 c)) = c - sj := fun h => by
                  rw [hbx, hsj]
                  exact FP.rows_cut HAX.out (by rw [← HLA.out]; exact hj) (by rw [← hsj]; exact hjc) (by rw [← HLA.out]; exact h) (by have := HTZ.out; omega)
                have HFIN := Lib.hid hfin
                have HSJ := Lib.hid hsj
                clear hfin hsj hbx
                by_cases hlt : j < la
                · obtain ⟨e, he⟩ : ∃ e, e = FP.sum (xs.take (j + 1)) := ⟨_, rfl⟩
                  have hcell : w4.cell? ⟨be, oe + (j + 1), none⟩ = some (.int .i64 (e : Int)) := by rw [he]; exact hce (j + 1) _ (ends_at xs (by omega))
                  have HE := Lib.hid he
                  clear he hce
                  by_cases hec : e ≤ c
                  · go_wp2
                    go_round
                    case rel => exact ⟨j + 1, by omega, by go_num, by rw [← HE.out]; exact hec⟩
                    case measure => simp [intOf]; omega
                  · obtain ⟨hrows, htorn⟩ := HFIN.out (fun _ => by rw [← HE.out]; omega)
                    have HALLC : Hid (∀ W, Calls Try.prog 12 #[.string (t.extract 0 c)] W fun e W' => ∃ A' c', e = .returned (.tuple #[.slice A' j c', .int .i64 ((c : Int) - (sj : Int))]) ∧ Seen W' W'.heap.size A' (strs (xs.take j)) ∧ j ≤ c' ∧ Below W.heap.size W W') := by
                      intro W
                      have := all_any (t.extract 0 c) hesz W
                      rw [hrows, htorn, ← HJL.out, show ((c - sj : Nat) : Int) = (c : Int) - (sj : Int) by omega] at this
                      exact this
                    have HWHC : Hid (∀ W, Calls Try.prog 17 #[.string (t.extract 0 c)] W fun e W' => e = .returned (.bool ((c : Int) - (sj : Int) == 0)) ∧ Below W.heap.size W W') := by
                      intro W
                      have := whole_any (t.extract 0 c) hesz W
                      rw [htorn, ← beq_zero, show ((c - sj : Nat) : Int) = (c : Int) - (sj : Int) by omega] at this
                      exact this
                    clear hrows htorn
                    have hca' : Calls Try.prog 12 #[.string (t.extract 0 c)] w4 fun e W' => ∃ A' c', e = .returned (.tuple #[.slice A' j c', .int .i64 ((c : Int) - (sj : Int))]) ∧ Seen W' W'.heap.size A' (strs (xs.take j)) ∧ j ≤ c' ∧ Below w4.heap.size w4 W' := HALLC.out w4
                    have HQ := Lib.hid hca'
                    clear hca'
                    go_wp2_with fail
                    refine HQ.out.mono ?_
                    rintro e w5 ⟨A5, c5, rfl, hs5, hc5, h5⟩
                    have hb5 : Below w.heap.size w w5 := hb4.trans (h5.mono hb4.size)
                    have hsa5 := (hsa4.below h5).up h5.size
                    obtain ⟨D, hcut, hsD⟩ := cut_upto (k := j) HLA.out hsa5 ca hj hca
                    have hcj5 : w5.cell? ⟨be, oe + j, none⟩ = some (.int .i64 (sj : Int)) := (h5.cell (p := ⟨be, oe + j, none⟩) hbe).trans hcj
                    clear hcj h5 hsa5 hsa4
                    go_wp2_with fail
                    refine (same_any D A5 ca c5 j j (xs.take j) (xs.take j) _ HJL.out HJL.out hsD hs5 (by omega) (by omega)).mono ?_
                    rintro e w6 ⟨rfl, q2, rfl⟩
                    rw [show decide (xs.take j = xs.take j) = true from decide_eq_true rfl]
                    have hcj6 : (w5.drewN q2).cell? ⟨be, oe + j, none⟩ = some (.int .i64 (sj : Int)) := hcj5
                    have hb6 : Below w.heap.size w (w5.drewN q2) := below_drewN hb5 q2
                    clear hcj5
                    go_wp2_with fail
                    refine (HWHC.out _).mono ?_
                    rintro e w7 ⟨rfl, h7⟩
                    have hb7 : Below w.heap.size w w7 := hb6.trans (h7.mono hb6.size)
                    go_wp2_with fail
                    refine (wakes_any _).mono ?_
                    rintro e w8 ⟨rfl, h8⟩
                    go_wp2
                    go_ret
                    exact ⟨rfl, hb7.trans (h8.mono hb7.size)⟩
                · obtain ⟨hrows, htorn⟩ := HFIN.out (fun h => absurd h hlt)
                  have HALLC : Hid (∀ W, Calls Try.prog 12 #[.string (t.extract 0 c)] W fun e W' => ∃ A' c', e = .returned (.tuple #[.slice A' j c', .int .i64 ((c : Int) - (sj : Int))]) ∧ Seen W' W'.heap.size A' (strs (xs.take j)) ∧ j ≤ c' ∧ Below W.heap.size W W') := by
                    intro W
                    have := all_any (t.extract 0 c) hesz W
                    rw [hrows, htorn, ← HJL.out, show ((c - sj : Nat) : Int) = (c : Int) - (sj : Int) by omega] at this
                    exact this
                  have HWHC : Hid (∀ W, Calls Try.prog 17 #[.string (t.extract 0 c)] W fun e W' => e = .returned (.bool ((c : Int) - (sj : Int) == 0)) ∧ Below W.heap.size W W') := by
                    intro W
                    have := whole_any (t.extract 0 c) hesz W
                    rw [htorn, ← beq_zero, show ((c - sj : Nat) : Int) = (c : Int) - (sj : Int) by omega] at this
                    exact this
                  clear hrows htorn
                  have hca' : Calls Try.prog 12 #[.string (t.extract 0 c)] w4 fun e W' => ∃ A' c', e = .returned (.tuple #[.slice A' j c', .int .i64 ((c : Int) - (sj : Int))]) ∧ Seen W' W'.heap.size A' (strs (xs.take j)) ∧ j ≤ c' ∧ Below w4.heap.size w4 W' := HALLC.out w4
                  have HQ := Lib.hid hca'
                  clear hca'
                  go_wp2_with fail
                  refine HQ.out.mono ?_
                  rintro e w5 ⟨A5, c5, rfl, hs5, hc5, h5⟩
                  have hb5 : Below w.heap.size w w5 := hb4.trans (h5.mono hb4.size)
                  have hsa5 := (hsa4.below h5).up h5.size
                  obtain ⟨D, hcut, hsD⟩ := cut_upto (k := j) HLA.out hsa5 ca hj hca
                  have hcj5 : w5.cell? ⟨be, oe + j, none⟩ = some (.int .i64 (sj : Int)) := (h5.cell (p := ⟨be, oe + j, none⟩) hbe).trans hcj
                  clear hcj h5 hsa5 hsa4
                  go_wp2_with fail
                  refine (same_any D A5 ca c5 j j (xs.take j) (xs.take j) _ HJL.out HJL.out hsD hs5 (by omega) (by omega)).mono ?_
                  rintro e w6 ⟨rfl, q2, rfl⟩
                  rw [show decide (xs.take j = xs.take j) = true from decide_eq_true rfl]
                  have hcj6 : (w5.drewN q2).cell? ⟨be, oe + j, none⟩ = some (.int .i64 (sj : Int)) := hcj5
                  have hb6 : Below w.heap.size w (w5.drewN q2) := below_drewN hb5 q2
                  clear hcj5
                  go_wp2_with fail
                  refine (HWHC.out _).mono ?_
                  rintro e w7 ⟨rfl, h7⟩
                  have hb7 : Below w.heap.size w w7 := hb6.trans (h7.mono hb6.size)
                  go_wp2_with fail
                  refine (wakes_any _).mono ?_
                  rintro e w8 ⟨rfl, h8⟩
                  go_wp2
                  go_ret
                  exact ⟨rfl, hb7.trans (h8.mono hb7.size)⟩

theorem back_walk (a0 : Option Addr) (len0 cap0 : Nat) (a1 : Int) (w : World)
    (w0 : ∃ ls : List (List UInt8), len0 = ls.length ∧ Seen w w.heap.size a0 (strs ls) ∧ (∀ l ∈ ls, l.length ≤ maxLen) ∧ len0 ≤ cap0 ∧ cap0 ≤ maxLen) (r0 : len0 ≤ 140737488351232) :
    Calls Try.prog 4 #[.slice a0 len0 cap0, .int .i64 a1] w fun e w' => e = .returned (.bool true) ∧ Below w.heap.size w w' := by
  obtain ⟨xs, hx, hsx, hxm, hc, _⟩ := w0
  exact back_in a0 cap0 len0 xs a1 w hx hsx hxm r0 hc
end Go.Proofs.Ytcfdfpihmmaalaa
