/-
  The walk over FrameOne: it returns true and turns nothing that was there. Condition: what is said of the slices that came in.
-/
import Derived.Test.YtcfdfpihmmaalaaFrmAny
import Derived.Test.YtcfdfpihmmaalaaFrmRows
import Derived.Test.YtcfdfpihmmaalaaFrmLawPlain
namespace Go.Proofs.Ytcfdfpihmmaalaa
open Go.RowKit

theorem int_eq {k : IntKind} {a b : Int} (h : a = b) : Value.int k a = .int k b := by rw [h]

set_option maxRecDepth 100000 in
set_option maxHeartbeats 4000000 in
theorem one_in (A B : Option Addr) (ca cb la lb : Nat) (xs ys : List (List UInt8)) (w : World) (hla : la = xs.length) (hlb : lb = ys.length) (hsa : Seen w w.heap.size A (strs xs)) (hsb : Seen w w.heap.size B (strs ys))
    (hxs : ∀ x ∈ xs, x.length ≤ maxLen) (hys : ∀ x ∈ ys, x.length ≤ maxLen) (hma : la ≤ 140737488351232) (hmb : lb ≤ 140737488351232) :
    Calls Try.prog 6 #[.slice A la ca, .slice B lb cb] w fun e w' => e = .returned (.bool true) ∧ Below w.heap.size w w' := by
  have HLA := Lib.hid hla
  have HLB := Lib.hid hlb
  have HXS := Lib.hid hxs
  have HYS := Lib.hid hys
  clear hla hlb hxs hys
  go_enter Try.func6, Try.ntmps6
  go_wp2_with fail
  go_loop [5, 6] (fun n i => ∃ j : Nat, j ≤ la + lb ∧ j ≤ 71 ∧ i = .int .i64 (j : Int) ∧ n = .int .i64 (FP.cap7 ((xs ++ ys).take j) : Nat)) (fun _ i => 71 - (intOf i).toNat)
  case atStart => exact ⟨0, by omega, by omega, rfl, rfl⟩
  case round =>
    obtain ⟨j, hj, hj71, rfl, hn⟩ := hrel
    obtain ⟨m, hm⟩ : ∃ m, m = FP.cap7 ((xs ++ ys).take j) := ⟨_, rfl⟩
    have hmle : m ≤ 7000 * 71 := by have := FP.cap7_take (xs ++ ys) j; omega
    rw [← hm] at hn
    subst hn
    have HM := Lib.hid hm
    clear hm
    by_cases hgo : j < la + lb ∧ j ≤ 70
    · obtain ⟨hg1, hg2⟩ := hgo
      have hg1' : (j : Int) < (la : Int) + (lb : Int) := by omega
      by_cases hlt : j < la
      · have hjl : j < xs.length := by rw [← HLA.out]; exact hlt
        obtain ⟨bb, off, rfl, hbl, hcell⟩ := seen_at hsa hjl
        have hnext : m + min (str xs[j]).size 7000 = FP.cap7 ((xs ++ ys).take (j + 1)) := by
          rw [str_size, FP.cap7_snoc (by rw [List.length_append]; omega), ← HM.out, List.getElem_append_left hjl]
        have hsm : (str xs[j]).size ≤ maxLen := by rw [str_size]; exact HXS.out _ (List.getElem_mem hjl)
        unfold maxLen at hsm
        obtain ⟨sj, hsj⟩ : ∃ sj, sj = str xs[j] := ⟨_, rfl⟩
        rw [← hsj] at hcell hnext hsm
        have HNX := Lib.hid hnext
        clear hsj hnext
        go_wp2
        go_round
        case rel => exact ⟨j + 1, by omega, by omega, by go_num, int_eq (by rw [← HNX.out]; omega)⟩
        case measure => simp [intOf]; omega
      · obtain ⟨i, rfl⟩ : ∃ i, j = la + i := ⟨j - la, by omega⟩
        have hjl : i < ys.length := by rw [← HLB.out]; omega
        obtain ⟨bb, off, rfl, hbl, hcell⟩ := seen_at hsb hjl
        have hnext : m + min (str ys[i]).size 7000 = FP.cap7 ((xs ++ ys).take (la + i + 1)) := by
          have hl : la + i < (xs ++ ys).length := by rw [List.length_append, ← HLA.out, ← HLB.out]; omega
          have hg : (xs ++ ys)[la + i] = ys[i] := by
            rw [List.getElem_append_right (by rw [← HLA.out]; omega)]
            congr 1
            rw [← HLA.out]; omega
          rw [str_size, FP.cap7_snoc hl, ← HM.out, hg]
        have hsm : (str ys[i]).size ≤ maxLen := by rw [str_size]; exact HYS.out _ (List.getElem_mem hjl)
        unfold maxLen at hsm
        obtain ⟨sj, hsj⟩ : ∃ sj, sj = str ys[i] := ⟨_, rfl⟩
        rw [← hsj] at hcell hnext hsm
        have HNX := Lib.hid hnext
        have hi : i < lb := by omega
        have hi' : (i : Int) < (lb : Int) := by omega
        have hnlt : decide ((la : Int) + (i : Int) < (la : Int)) = false := bool_dec _ (by omega)
        clear hsj hnext hlt
        go_wp2
        go_round
        case rel => exact ⟨la + i + 1, by omega, by omega, by go_num, int_eq (by rw [← HNX.out]; omega)⟩
        case measure => simp [intOf]; omega
    · by_cases hA : 30 < la ∨ 30 < lb
      · have hstep : decide ((j : Int) < (la : Int) + (lb : Int)) = false ∨ (decide ((j : Int) < (la : Int) + (lb : Int)) = true ∧ decide ((j : Int) ≤ 70) = false) := by
          rcases Nat.lt_or_ge j (la + lb) with h | h
          · exact .inr ⟨by simp; omega, bool_dec _ (by omega)⟩
          · exact .inl (bool_dec _ (by omega))
        have hbig : decide ((30 : Int) < (la : Int)) = true ∨ (decide ((30 : Int) < (la : Int)) = false ∧ decide ((30 : Int) < (lb : Int)) = true) := by
          rcases Nat.lt_or_ge 30 la with h | h
          · exact .inl (by simp; omega)
          · exact .inr ⟨bool_dec _ (by omega), by simp; omega⟩
        clear hgo hA
        rcases hstep with h1 | ⟨h1, h2⟩
        · rcases hbig with h3 | ⟨h3, h4⟩
          · go_wp2_with fail
            refine (wakes_any _).mono ?_
            rintro e w1 ⟨rfl, hb⟩
            go_wp2
            go_ret
            exact ⟨rfl, hb⟩
          · go_wp2_with fail
            refine (wakes_any _).mono ?_
            rintro e w1 ⟨rfl, hb⟩
            go_wp2
            go_ret
            exact ⟨rfl, hb⟩
        · rcases hbig with h3 | ⟨h3, h4⟩
          · go_wp2_with fail
            refine (wakes_any _).mono ?_
            rintro e w1 ⟨rfl, hb⟩
            go_wp2
            go_ret
            exact ⟨rfl, hb⟩
          · go_wp2_with fail
            refine (wakes_any _).mono ?_
            rintro e w1 ⟨rfl, hb⟩
            go_wp2
            go_ret
            exact ⟨rfl, hb⟩
      · obtain rfl : j = la + lb := by omega
        have h1 : decide (((la + lb : Nat) : Int) < (la : Int) + (lb : Int)) = false := bool_dec _ (by omega)
        have h3 : decide ((30 : Int) < (la : Int)) = false := bool_dec _ (by omega)
        have h4 : decide ((30 : Int) < (lb : Int)) = false := bool_dec _ (by omega)
        have hla : la ≤ 30 := by omega
        have hlb : lb ≤ 30 := by omega
        clear hgo hA
        by_cases hB : 6000 < m
        · have h5 : decide ((6000 : Int) < (m : Int)) = true := by simp; omega
          clear hB
          go_wp2_with fail
          refine (wakes_any _).mono ?_
          rintro e w1 ⟨rfl, hb⟩
          go_wp2
          go_ret
          exact ⟨rfl, hb⟩
        · have h5 : decide ((6000 : Int) < (m : Int)) = false := bool_dec _ (by omega)
          have hm6 : FP.cap7 (xs ++ ys) ≤ 6000 := by
            have := HM.out
            rw [List.take_of_length_le (by rw [List.length_append, ← HLA.out, ← HLB.out]; exact Nat.le_refl _)] at this
            omega
          rw [FP.cap7_append] at hm6
          obtain ⟨hx6, hxsum⟩ := FP.cap7_small (ls := xs) (by omega)
          obtain ⟨hy6, hysum⟩ := FP.cap7_small (ls := ys) (by omega)
          rw [← HLA.out] at hxsum
          rw [← HLB.out] at hysum
          have hxs : FP.sum xs ≤ 6200 := by omega
          have hys : FP.sum ys ≤ 6200 := by omega
          have HX6 := Lib.hid hx6
          have HY6 := Lib.hid hy6
          clear hB hm6 hxsum hysum hx6 hy6
          go_wp2_with fail
          go_loopw [7, 9] (fun t i wr => ∃ j : Nat, j ≤ la ∧ i = .int .i64 (j : Int) ∧ t = .string (str (FP.flat (xs.take j))) ∧ (∀ x ∈ xs.take j, x.length ≤ 1024) ∧ Below w.heap.size w wr) (fun _ i _ => la - (intOf i).toNat)
          case atStart => exact ⟨0, by omega, rfl, rfl, by simp, Below.refl _ _⟩
          case round =>
            obtain ⟨j, hj, rfl, ht, hall, hb⟩ := hrel
            obtain ⟨t, htt⟩ : ∃ t, t = str (FP.flat (xs.take j)) := ⟨_, rfl⟩
            have hts : t.size ≤ 6200 := by rw [htt, str_size, FP.flat_length]; have := FP.sum_take_le xs j; omega
            rw [← htt] at ht
            subst ht
            have HT := Lib.hid htt
            have HALL := Lib.hid hall
            clear htt hall
            by_cases hlt : j < la
            · have hjl : j < xs.length := by rw [← HLA.out]; exact hlt
              obtain ⟨bb, off, rfl, hbl, hcell0⟩ := seen_at hsa hjl
              have hcell := (hb.cell (p := ⟨bb, off + j, none⟩) hbl).trans hcell0
              have hs6 : (str xs[j]).size ≤ 6000 := by rw [str_size]; exact HX6.out _ (List.getElem_mem hjl)
              obtain ⟨sj, hsj⟩ : ∃ sj, sj = str xs[j] := ⟨_, rfl⟩
              have hbs : bytesOf sj = xs[j] := by rw [hsj, bytesOf_str]
              rw [← hsj] at hcell hs6
              clear hcell0
              by_cases hx : sj.size ≤ 1024
              · have hnext : t ++ str (FP.enc (bytesOf sj)) = str (FP.flat (xs.take (j + 1))) := by rw [HT.out, ← str_append, hbs, ← FP.flat_take hjl]
                have hall2 := FP.take_all HALL.out hjl (by rw [← hbs, bytesOf_length]; exact hx)
                have hes : (str (FP.enc (bytesOf sj))).size ≤ 2000 := by rw [str_size, FP.enc_length, bytesOf_length]; omega
                have HNX := Lib.hid hnext
                have HAL2 := Lib.hid hall2
                clear hnext hall2 hsj hbs
                go_wp2_with fail
                refine (bytes_yes sj _ hx).mono ?_
                rintro e w2 ⟨rfl, h2⟩
                have h3 : Below w.heap.size w w2 := hb.trans (h2.mono hb.size)
                clear h2 hcell
                go_wp2
                go_roundw
                case rel => exact ⟨j + 1, by omega, by go_num, by rw [HNX.out], HAL2.out, h3⟩
                case measure => simp [intOf]; omega
              · clear hsj hbs
                go_wp2_with fail
                refine (bytes_no sj _ (by omega) (by omega)).mono ?_
                rintro e w2 ⟨rfl, rfl⟩
                go_wp2_with fail
                refine (wakes_any _).mono ?_
                rintro e w2 ⟨rfl, h2⟩
                go_wp2
                go_ret
                exact ⟨rfl, hb.trans (h2.mono hb.size)⟩
            · obtain rfl : la = j := by omega
              have htx : t = str (FP.flat xs) := by rw [HT.out, List.take_of_length_le (by rw [← HLA.out]; exact Nat.le_refl _)]
              have hax : ∀ x ∈ xs, x.length ≤ 1024 := by
                have := HALL.out
                rwa [List.take_of_length_le (by rw [← HLA.out]; exact Nat.le_refl _)] at this
              obtain ⟨u, hu⟩ : ∃ u, u = t := ⟨_, rfl⟩
              have HTX : Hid (u = str (FP.flat xs)) := by show _ = _; rw [hu, htx]
              have HAX := Lib.hid hax
              rw [← hu]
              have hb2 := hb
              clear hu htx hax HT HALL hlt hj hb
              go_wp2_with fail
              go_loopw [8, 12] (fun t i wr => ∃ j : Nat, j ≤ lb ∧ i = .int .i64 (j : Int) ∧ t = .string (str (FP.flat (ys.take j))) ∧ (∀ x ∈ ys.take j, x.length ≤ 1024) ∧ Below w.heap.size w wr) (fun _ i _ => lb - (intOf i).toNat)
              case atStart => exact ⟨0, by omega, rfl, rfl, by simp, hb2⟩
              case round =>
                obtain ⟨j, hj, rfl, ht, hall, hb⟩ := hrel
                obtain ⟨t, htt⟩ : ∃ t, t = str (FP.flat (ys.take j)) := ⟨_, rfl⟩
                have hts : t.size ≤ 6200 := by rw [htt, str_size, FP.flat_length]; have := FP.sum_take_le ys j; omega
                rw [← htt] at ht
                subst ht
                have HT := Lib.hid htt
                have HALL := Lib.hid hall
                clear htt hall
                by_cases hlt : j < lb
                · have hjl : j < ys.length := by rw [← HLB.out]; exact hlt
                  obtain ⟨bb, off, rfl, hbl, hcell0⟩ := seen_at hsb hjl
                  have hcell := (hb.cell (p := ⟨bb, off + j, none⟩) hbl).trans hcell0
                  have hs6 : (str ys[j]).size ≤ 6000 := by rw [str_size]; exact HY6.out _ (List.getElem_mem hjl)
                  obtain ⟨sj, hsj⟩ : ∃ sj, sj = str ys[j] := ⟨_, rfl⟩
                  have hbs : bytesOf sj = ys[j] := by rw [hsj, bytesOf_str]
                  rw [← hsj] at hcell hs6
                  clear hcell0
                  by_cases hx : sj.size ≤ 1024
                  · have hnext : t ++ str (FP.enc (bytesOf sj)) = str (FP.flat (ys.take (j + 1))) := by rw [HT.out, ← str_append, hbs, ← FP.flat_take hjl]
                    have hall2 := FP.take_all HALL.out hjl (by rw [← hbs, bytesOf_length]; exact hx)
                    have hes : (str (FP.enc (bytesOf sj))).size ≤ 2000 := by rw [str_size, FP.enc_length, bytesOf_length]; omega
                    have HNX := Lib.hid hnext
                    have HAL2 := Lib.hid hall2
                    clear hnext hall2 hsj hbs
                    go_wp2_with fail
                    refine (bytes_yes sj _ hx).mono ?_
                    rintro e w2 ⟨rfl, h2⟩
                    have h3 : Below w.heap.size w w2 := hb.trans (h2.mono hb.size)
                    clear h2 hcell
                    go_wp2
                    go_roundw
                    case rel => exact ⟨j + 1, by omega, by go_num, by rw [HNX.out], HAL2.out, h3⟩
                    case measure => simp [intOf]; omega
                  · clear hsj hbs
                    go_wp2_with fail
                    refine (bytes_no sj _ (by omega) (by omega)).mono ?_
                    rintro e w2 ⟨rfl, rfl⟩
                    go_wp2_with fail
                    refine (wakes_any _).mono ?_
                    rintro e w2 ⟨rfl, h2⟩
                    go_wp2
                    go_ret
                    exact ⟨rfl, hb.trans (h2.mono hb.size)⟩
                · obtain rfl : lb = j := by omega
                  have hty : t = str (FP.flat ys) := by rw [HT.out, List.take_of_length_le (by rw [← HLB.out]; exact Nat.le_refl _)]
                  have hay : ∀ x ∈ ys, x.length ≤ 1024 := by
                    have := HALL.out
                    rwa [List.take_of_length_le (by rw [← HLB.out]; exact Nat.le_refl _)] at this
                  have hq : (u.toList == t.toList) = decide (xs = ys) := by
                    rw [eqS, HTX.out, hty, Bool.eq_iff_iff, decide_eq_true_eq, decide_eq_true_eq]
                    exact ⟨fun h => (FP.flat_inj HAX.out hay).1 (str_inj h), fun h => by rw [h]⟩
                  have HQ := Lib.hid hq
                  clear hq hty hay
                  go_wp2_with fail
                  refine (same_any A B ca cb la lb xs ys _ HLA.out HLB.out ((hsa.below hb).up hb.size) ((hsb.below hb).up hb.size) hma hmb).mono ?_
                  rintro e w4 ⟨rfl, q, rfl⟩
                  have hq := HQ.out
                  obtain ⟨r, hr⟩ : ∃ r, decide (xs = ys) = r := ⟨_, rfl⟩
                  rw [hr] at hq ⊢
                  clear hr HQ
                  go_wp2_with fail
                  refine (wakes_any _).mono ?_
                  rintro e w5 ⟨rfl, h5⟩
                  go_wp2
                  go_ret
                  exact ⟨rfl, (below_drewN hb q).trans (h5.mono hb.size)⟩

theorem one_walk (a0 : Option Addr) (len0 cap0 : Nat) (a1 : Option Addr) (len1 cap1 : Nat) (w : World)
    (w0 : ∃ ls : List (List UInt8), len0 = ls.length ∧ Seen w w.heap.size a0 (strs ls) ∧ (∀ l ∈ ls, l.length ≤ maxLen) ∧ len0 ≤ cap0 ∧ cap0 ≤ maxLen)
    (w1 : ∃ ls : List (List UInt8), len1 = ls.length ∧ Seen w w.heap.size a1 (strs ls) ∧ (∀ l ∈ ls, l.length ≤ maxLen) ∧ len1 ≤ cap1 ∧ cap1 ≤ maxLen)
    (r0 : len0 ≤ 140737488351232) (r1 : len1 ≤ 140737488351232) :
    Calls Try.prog 6 #[.slice a0 len0 cap0, .slice a1 len1 cap1] w fun e w' => e = .returned (.bool true) ∧ Below w.heap.size w w' := by
  obtain ⟨xs, hx, hsx, hxm, _, _⟩ := w0
  obtain ⟨ys, hy, hsy, hym, _, _⟩ := w1
  exact one_in a0 a1 cap0 cap1 len0 len1 xs ys w hx hy hsx hsy hxm hym r0 r1
end Go.Proofs.Ytcfdfpihmmaalaa
