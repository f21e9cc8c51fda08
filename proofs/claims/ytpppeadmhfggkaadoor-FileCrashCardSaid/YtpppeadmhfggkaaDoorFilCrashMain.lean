/-
  The law FileCrash: its walk behind the first test. Conditions: those that each theorem names.
-/
import Derived.Test.YtpppeadmhfggkaaDoorFilCrashWalk
namespace Go.Proofs.YtpppeadmhfggkaaDoor
open Go.RowKit DP

/-! ### appends of loads -/
theorem append_strs {w : World} {base n m c B : Nat} {v : Value} {A2 : Option Addr} {ls ms : List (List UInt8)} (ty : TypeId) (hown : w.ownsRow base 9 1 v n (strs ls)) (hs : Seen w B A2 (strs ms)) (hm : m = ms.length) (h0 : 0 < m) (hbase : base ≤ w.heap.size) (hle : n + m ≤ 1000000) :
    ∃ A' c' w', (Builtin.append_ #[25, 25] ty #[v, .slice A2 m c]).run Tryd.prog w = .ok (.slice A' (n + m) c') w' ∧ w'.ownsRow base 9 1 (.slice A' (n + m) c') (n + m) (strs (ls ++ ms)) ∧ Below base w w' := by
  obtain ⟨i0, hi, hz0, hz1, hz2⟩ := info_parts str_info
  have hne : strs ms ≠ [] := fun e => by have := strs_length ms; rw [e] at this; simp at this; omega
  obtain ⟨a2, rfl, hc2⟩ := seen_some hs hne
  obtain ⟨v', w', hrun, h2, h3, _⟩ := run_append_own (P := Tryd.prog) w base 25 ty _ i0 (.string ByteArray.empty) 1 16 Tryd.underlying25 hi hz0 hz1 hz2 rfl (by omega) v n (strs ls) hown a2 m c (strs ms) (by rw [strs_length, hm]; omega) hc2 (strs_one ms) (by unfold maxLen; omega) (by omega) hbase
  rw [← strs_append] at h2
  obtain ⟨A', c', rfl, _, _⟩ := own_form h2
  exact ⟨A', c', w', hrun, h2, grown_below h3 hbase (fun g hg => (hown.lt g hg).1)⟩
theorem own_room {w : World} {base n c : Nat} {e : TypeId} {A : Option Addr} {xs : List Value} (h : w.ownsRow base e 1 (.slice A n c) n xs) : n ≤ c := by
  rcases h.2 with ⟨h1, h2⟩ | ⟨g, cap, cur, h1, _, _, h3, _⟩
  · omega
  · injection h1 with _ _ h4
    omega
theorem made_row (w : World) : (w.alloc (.cells #[] 9)).ownsRow w.heap.size 9 1 (.slice (some ⟨w.heap.size, 0, none⟩) 0 0) 0 (strs []) := World.ownsRow_made w #[] 0 (Nat.le_refl _) (Nat.zero_le _) rfl
theorem wpList_append_on {P : Program} {w : World} {ops : Array Oper} {rest : List Oper} {o : Oper} {a : Act} {Q : Exit → Act → World → Prop} (hw : Region.wanted o (yielded ops a.tmps) = true) (s x : Operand) (t : TypeId)
    (ho : o.op = .call { callee := .builtin .append, args := #[s, x], argTypes := #[t, t] }) (v1 v2 v' : Value) (w' : World) (hs : a.eval s = v1) (hx : a.eval x = v2)
    (hrun : (Builtin.append_ #[t, t] o.type #[v1, v2]).run P w = .ok v' w') (h : wpList P ops Q rest (a.put o.dst v') w') : wpList P ops Q (o :: rest) a w := by
  refine wpList_step fun K hK => ?_
  rw [if_pos hw]
  unfold Oper.wp execOp
  simp only [ho, resolve, invoke, builtin, Sem.run_bind, Sem.run_pure, Result.andThen_ok, List.map_toArray, List.map_cons, List.map_nil, hs, hx, hrun]
  exact hK _ _ h

/-! ### the ways -/
theorem fits_zero {ls : List (List UInt8)} (h : FP.sum ls = 0) : ls = [] := by
  cases ls with
  | nil => rfl
  | cons x r => simp only [FP.sum] at h; omega
theorem flat_zero {ls : List (List UInt8)} (h : fits ls = false ∨ FP.sum ls = 0) : (flatS ls).size = 0 := by
  cases hf : fits ls with
  | false => rw [flatS_no hf]; rfl
  | true =>
    rw [flatS_yes hf, str_size, FP.flat_length]
    rcases h with h | h
    · rw [hf] at h; cases h
    · exact h
theorem puts_ways (ls : List (List UInt8)) : (fits ls = true ∧ 0 < FP.sum ls ∧ FP.sum ls ≤ 65536 ∧ puts D0 wkA ls = (D1 (str (FP.flat ls)) (FP.sum ls), none)) ∨ ∃ e, puts D0 wkA ls = (D0, some (0, wkA, e)) := by
  by_cases h0 : fits ls = false ∨ FP.sum ls = 0
  · exact .inr ⟨2, puts_none (flat_zero h0)⟩
  · have hf : fits ls = true := by
      cases h : fits ls
      · exact absurd (.inl h) h0
      · rfl
    by_cases h1 : 65536 < FP.sum ls
    · exact .inr ⟨31, puts_new_full hf h1⟩
    · exact .inl ⟨hf, by omega, by omega, puts_new hf (by omega) (by omega)⟩
theorem puts_ways1 {b : ByteArray} {s : Int} (hb : 0 < b.size) (hb' : b.size ≤ 65536) (h0 : 0 ≤ s) (h1 : s ≤ b.size) (ls : List (List UInt8)) :
    (fits ls = true ∧ 0 < FP.sum ls ∧ b.size + FP.sum ls ≤ 65536 ∧ puts (D1 b s) wkA ls = (D1 (b ++ str (FP.flat ls)) ((b.size : Int) + (FP.sum ls : Int)), none)) ∨ ∃ e : Int, (e = 2 ∨ e = 31) ∧ puts (D1 b s) wkA ls = (D1 b s, some (0, wkA, e)) := by
  by_cases hz : fits ls = false ∨ FP.sum ls = 0
  · exact .inr ⟨2, .inl rfl, puts_none (flat_zero hz)⟩
  · have hf : fits ls = true := by
      cases h : fits ls
      · exact absurd (.inl h) hz
      · rfl
    by_cases h2 : 65536 < b.size + FP.sum ls
    · exact .inr ⟨31, .inr rfl, puts_one_full hb hb' h0 h1 hf (by omega) h2⟩
    · exact .inl ⟨hf, by omega, by omega, puts_one hb h0 h1 hf (by omega) (by omega)⟩

section
variable (A1 A2 A3 : Option Addr) (n1 c1 n2 c2 n3 c3 : Nat) (keep : Int) (us vs xs : List (List UInt8)) (w : World)
set_option maxRecDepth 100000 in
set_option maxHeartbeats 4000000 in
theorem crash_main (hk1 : -9223372036854775808 ≤ keep) (hk2 : keep ≤ 9223372036854775807) (hh : Crs A1 A2 A3 n1 n2 n3 us vs xs w) :
    Calls Tryd.prog 4 #[.slice A1 n1 c1, .slice A2 n2 c2, .slice A3 n3 c3, .int .i64 keep] w fun e w' => e = .returned (.bool true) ∧ Below w.heap.size w w' := by
  have HH := Lib.hid hh
  have d1 := Rw.hundred (show ¬ 100 < n1 from Nat.not_lt.2 hh.h1)
  have d2 := Rw.hundred (show ¬ 100 < n2 from Nat.not_lt.2 hh.h2)
  have d3 := Rw.hundred (show ¬ 100 < n3 from Nat.not_lt.2 hh.h3)
  have z1 : ∀ x ∈ us, x.length ≤ 140737488351232 := fun x hx => Nat.le_trans (greatL_no hh.g1 x hx) (by omega)
  have z2 : ∀ x ∈ vs, x.length ≤ 140737488351232 := fun x hx => Nat.le_trans (greatL_no hh.g2 x hx) (by omega)
  have z3 : ∀ x ∈ xs, x.length ≤ 140737488351232 := fun x hx => Nat.le_trans (greatL_no hh.g3 x hx) (by omega)
  have Z1 := Lib.hid z1
  have Z2 := Lib.hid z2
  have Z3 := Lib.hid z3
  clear hh z1 z2 z3
  go_enter Tryd.func4, Tryd.ntmps4
  go_wp2_with fail
  refine (greatL_any A1 n1 c1 w.heap.size us false _ HH.out.r1.len HH.out.g1 HH.out.r1.seen HH.out.r1.max HH.out.r1.size).mono ?_
  rintro e w1 ⟨rfl, rfl⟩
  go_wp2_with fail
  refine (greatL_any A2 n2 c2 w.heap.size vs false _ HH.out.r2.len HH.out.g2 HH.out.r2.seen HH.out.r2.max HH.out.r2.size).mono ?_
  rintro e w1 ⟨rfl, rfl⟩
  go_wp2_with fail
  refine (greatL_any A3 n3 c3 w.heap.size xs false _ HH.out.r3.len HH.out.g3 HH.out.r3.seen HH.out.r3.max HH.out.r3.size).mono ?_
  rintro e w1 ⟨rfl, rfl⟩
  clear d1 d2 d3
  go_wp2_with fail
  refine (new_any 65536 65536 (-1) [] false 0 _ (by rfl)).mono ?_
  rintro e w1 ⟨B1, m1, q1, rfl, hl1, hs1, hc1, hb1⟩
  have HL1 := Lib.hid hl1
  have v1 := new1 w1 #[.slice B1 m1 q1, .int .i64 65536, .int .i64 (-1), .bool false] 24
  have hbt := bel1 w1 #[.slice B1 m1 q1, .int .i64 65536, .int .i64 (-1), .bool false] 24
  have hb1' := hb1.trans (hbt.mono hb1.size)
  have hs1' := hs1.below hbt
  have hg0 := hb1.size
  clear hl1
  go_wp2_with fail
  rcases puts_ways us with ⟨hfu, hu0, hu1, hpu⟩ | ⟨er, hpu⟩
  · have HP := Lib.hid hpu
    have HFU := Lib.hid hfu
    have hzu : (str (FP.flat us)).size = FP.sum us := by rw [str_size, FP.flat_length]
    obtain ⟨S, hS⟩ : ∃ S, S = str (FP.flat us) := ⟨_, rfl⟩
    obtain ⟨su, hsu⟩ : ∃ su, su = FP.sum us := ⟨_, rfl⟩
    rw [← hS, ← hsu] at HP
    rw [← hsu] at hu0 hu1
    rw [← hS, ← hsu] at hzu
    have HS := Lib.hid hS
    have HSU := Lib.hid hsu
    have HZU := Lib.hid hzu
    clear hpu hfu hS hsu hzu
    refine (fput_any B1 A1 m1 q1 w1.heap.size n1 c1 w.heap.size [] 65536 (-1) false wkA us (D1 S su) none _ (HH.out.glob.next hb1') HL1.out hs1' (by simp) (none_mild 65536) (by decide) HH.out.r1.len.symm HH.out.h1 Z1.out (HH.out.r1.seen.below hb1') hb1'.size HP.out).mono ?_
    rintro e w2 ⟨B2, m2, q2, ev, rfl, hl2, hs2, hc2, hev, hb2⟩
    obtain rfl : ev = .nilIface := hev
    have hb2' := hb1'.trans (hb2.mono hb1'.size)
    have v2 := Var.below v1 hb2 (by simp)
    obtain ⟨k0, k1, k2, k3, kf⟩ := v2.cells4
    have hb3' := hb2'.trans (set4_below (a := .slice B2 m2 q2) (b := .int .i64 65536) (c := .int .i64 (-1)) (d := .bool false) (W := w2) hg0)
    have hd3 := DkAt.step (d := D1 S su) hl2 hs2 hc2 v2 disk_noText
    have HD3 := Lib.hid hd3
    obtain ⟨g, hg⟩ : ∃ g, g = w1.heap.size := ⟨_, rfl⟩
    rw [← hg] at hb3' HD3 hg0 k0 k1 k2 k3 kf ⊢
    clear hs2 hb2 hl2 hc2 hs1 hs1' hbt hb1 v1 v2 hd3 hg
    go_wp2_with fail
    have hd3 := HD3.out
    obtain ⟨w3, hw3⟩ : ∃ w3, w3 = (((w2.setCell ⟨g, 0, none⟩ (.slice B2 m2 q2)).setCell ⟨g, 1, none⟩ (.int .i64 65536)).setCell ⟨g, 2, none⟩ (.int .i64 (-1))).setCell ⟨g, 3, none⟩ (.bool false) := ⟨_, rfl⟩
    rw [← hw3] at hb3' hd3 ⊢
    clear hw3 k0 k1 k2 k3 kf HD3
    refine (fbytes_any A2 n2 c2 w.heap.size vs _ HH.out.r2.len.symm HH.out.h2 Z2.out (HH.out.r2.seen.below hb3') hb3'.size).mono ?_
    rintro e w4 ⟨rfl, hb4⟩
    have hb4' := hb3'.trans (hb4.mono hb3'.size)
    have hd4 := hd3.grow hb4
    clear hd3 hb4 hb2'
    cases hfv : fits vs with
    | false =>
      rw [flatS_no hfv, flatE_no hfv]
      clear hfv hd4
      go_wp2_with fail
      refine (wakes_any _ (HH.out.glob.next hb4')).mono ?_
      rintro e w5 ⟨rfl, hb5⟩
      have hb5' := hb4'.trans (hb5.mono hb4'.size)
      go_wp2
      go_ret
      exact ⟨rfl, hb5'⟩
    | true =>
      rw [flatS_yes hfv, flatE_yes hfv]
      by_cases hv0 : FP.sum vs = 0
      · have hvn := fits_zero hv0
        have hn2 : n2 = 0 := by rw [HH.out.r2.len, hvn]; rfl
        have he : str (FP.flat vs) = { data := #[] } := by rw [hvn]; rfl
        rw [he]
        have hd0 : ((n2 : Int) == 0) = true := by rw [hn2]; rfl
        clear hfv hv0 hvn he hd4 hn2
        go_wp2_with fail
        refine (wakes_any _ (HH.out.glob.next hb4')).mono ?_
        rintro e w5 ⟨rfl, hb5⟩
        have hb5' := hb4'.trans (hb5.mono hb4'.size)
        go_wp2
        go_ret
        exact ⟨rfl, hb5'⟩
      · have HFV := Lib.hid hfv
        have hzv : (str (FP.flat vs)).size = FP.sum vs := by rw [str_size, FP.flat_length]
        obtain ⟨X, hX⟩ : ∃ X, X = str (FP.flat vs) := ⟨_, rfl⟩
        have hXs : X.size = FP.sum vs := by rw [hX]; exact hzv
        have hX0 : 0 < X.size := by omega
        obtain ⟨hne, _⟩ := full_ways (s := X) hX0
        rw [← hX]
        have HX := Lib.hid hX
        have HXS := Lib.hid hXs
        have hxm : X.size ≤ 300000 := by
          have h1 := flatS_size vs
          rw [flatS_yes hfv, ← hX, ← HH.out.r2.len] at h1
          have h2 := HH.out.h2
          omega
        have HV0 := Lib.hid hv0
        clear hfv hv0 hzv hX hXs
        obtain ⟨hl4, hs4, hc4, v4⟩ := hd4
        have HL4 := Lib.hid hl4
        obtain ⟨k0, k1, k2, k3, kf⟩ := v4.cells4
        go_wp2_with fail
        by_cases hfull : 65536 < su + X.size
        · have hdo := app_full (b := S) (x := X) (s := su) (by rw [HZU.out]; exact hu0) (by rw [HZU.out]; exact hu1) (by omega) (by rw [HZU.out]; omega) hX0 (by rw [HZU.out]; exact hfull)
          have HDO := Lib.hid hdo
          clear hdo hfull
          refine (do_any B2 m2 q2 w4.heap.size _ _ 65536 (-1) 0 0 false false 0 wkA X 0 31 _ (HH.out.glob.next hb4') HL4.out hs4 (Nat.le_refl _) (one_mild 65536 S su (by rw [HZU.out]; omega)).1 (by decide) hxm (by decide) (by decide) HDO.out).mono ?_
          rintro e w5 ⟨B5, m5, q5, rfl, hl5, hs5, hc5, hb5⟩
          have v5 := Var.below v4 hb5 v4.lt
          have hb5' := hb4'.trans (hb5.mono hb4'.size)
          have hb6' := hb5'.trans (set4_below (a := .slice B5 m5 q5) (b := .int .i64 0) (c := .int .i64 0) (d := .bool false) (W := w5) hg0)
          clear k0 k1 k2 k3 kf hs4 v4 hl5 hs5 hc5 hb5 hb4' hb5' hl4
          obtain ⟨k0, k1, k2, k3, kf⟩ := v5.cells4
          go_wp2_with fail
          obtain ⟨w6, hw6⟩ : ∃ w6, w6 = (((w5.setCell ⟨g, 0, none⟩ (.slice B5 m5 q5)).setCell ⟨g, 1, none⟩ (.int .i64 0)).setCell ⟨g, 2, none⟩ (.int .i64 0)).setCell ⟨g, 3, none⟩ (.bool false) := ⟨_, rfl⟩
          rw [← hw6] at hb6' ⊢
          refine (wakes_any _ (HH.out.glob.next hb6')).mono ?_
          rintro e w7 ⟨rfl, hb7⟩
          have hb7' := hb6'.trans (hb7.mono hb6'.size)
          clear hw6 k0 k1 k2 k3 kf v5
          go_wp2
          go_ret
          exact ⟨rfl, hb7'⟩
        · have hSX : S ++ X = str (FP.flat (us ++ vs)) := by rw [HS.out, HX.out, FP.flat_append, str_append]
          have hszX : (S ++ X).size = su + X.size := by rw [ByteArray.size_append, HZU.out]
          have hsum : FP.sum (us ++ vs) = su + X.size := by rw [FP.sum_append, HSU.out, HXS.out]
          have hdo := app_one (b := S) (x := X) (s := su) (by rw [HZU.out]; exact hu0) (by omega) (by rw [HZU.out]; omega) hX0 (by rw [HZU.out]; omega)
          obtain ⟨M, hM1, hM2, hM3⟩ := crash_one (b := S ++ X) (s := su) keep hu0 (by rw [hszX]; omega)
          obtain ⟨k, q, hk1, hk2, hq, hq1, hq2, htn, hbx⟩ := crash_rows (us := us) (vs := vs) (M := M) HFU.out HFV.out (by rw [← HSU.out]; exact hM1) (by rw [hsum, ← hszX]; exact hM2)
          have hbare : ((lefts [⟨wkA, S ++ X, (su : Int)⟩] [keep]).filter (fun f => !bare f)) = [⟨wkA, (S ++ X).extract 0 M, (M : Int)⟩] := by
            rw [← hM3]
            congr 1
            funext f
            unfold bare
            by_cases h : f.b.size = 0
            · simp [h]
            · simp [h]; omega
          have hck := one_check (cap := 65536) (b := S ++ X) (s := su) (by rw [hszX]; omega) (by rw [hszX]; omega) (by omega) (by omega) (by rw [hszX]; omega)
          have hqp : 0 < q := by have := HSU.out; omega
          obtain ⟨Y, hY⟩ : ∃ Y, Y = (S ++ X).extract 0 M := ⟨_, rfl⟩
          rw [← hSX, ← hY] at htn hbx
          rw [← hY] at hbare
          have hYs : Y.size = M := by rw [hY, ByteArray.size_extract, hszX]; omega
          obtain ⟨s2, hs20, hs21, hmend⟩ := mend_one (x := Y) (s := (M : Int)) (t := M - q) (q := q) (by omega) (by omega) (by omega) (by omega) htn (by omega) (by omega)
          obtain ⟨Z, hZ⟩ : ∃ Z, Z = Y.extract 0 q := ⟨_, rfl⟩
          rw [← hZ] at hmend hbx
          have hZs : Z.size = q := by rw [hZ, ByteArray.size_extract]; omega
          have hfg : fits (us ++ vs) = true := by rw [fits_all]; intro x hx; rcases List.mem_append.1 hx with h | h; exact fits_all.1 HFU.out x h; exact fits_all.1 HFV.out x h
          obtain ⟨got, hgot⟩ : ∃ got, got = (us ++ vs).take k := ⟨_, rfl⟩
          rw [← hgot] at hbx hq
          have hfgot : fits got = true := by rw [hgot]; exact fits_take k hfg
          have hrZ : FP.rows (bytesOf Z) = got := by rw [hbx, bytesOf_str, FP.rows_all (fits_all.1 hfgot)]
          have htZ : FP.torn (bytesOf Z) = 0 := by rw [hbx, bytesOf_str, FP.torn_all (fits_all.1 hfgot)]
          have hgl : got.length = k := by rw [hgot, List.length_take]; omega
          have HDO := Lib.hid hdo
          have HBARE := Lib.hid hbare
          have HCK := Lib.hid hck
          have HMEND := Lib.hid hmend
          have HBX := Lib.hid hbx
          have HFG := Lib.hid hfgot
          have HRZ := Lib.hid hrZ
          have HTZ := Lib.hid htZ
          have HGL := Lib.hid hgl
          have HGOT := Lib.hid hgot
          have hMle : M ≤ 65536 := by omega
          have hYm : Y.size ≤ 65536 := by omega
          have hZm : Z.size ≤ 65536 := by omega
          have hZ0 : 0 < Z.size := by omega
          have hs2z : s2 ≤ Z.size := by rw [hZs]; exact hs21
          have hkn1 : n1 ≤ k := by rw [HH.out.r1.len]; exact hk1
          have hkn2 : k ≤ n1 + n2 := by rw [HH.out.r1.len, HH.out.r2.len, ← List.length_append]; exact hk2
          have hvn0 : 0 < n2 := by
            rw [HH.out.r2.len]
            rcases Nat.eq_zero_or_pos vs.length with h | h
            · exact absurd (by rw [List.eq_nil_of_length_eq_zero h]; rfl) HV0.out
            · exact h
          have hun0 : 0 < n1 := by
            rw [HH.out.r1.len]
            rcases Nat.eq_zero_or_pos us.length with h | h
            · have h2 := HSU.out
              rw [List.eq_nil_of_length_eq_zero h] at h2
              simp only [FP.sum] at h2
              omega
            · exact h
          clear hqp hSX hszX hsum hdo hM1 hM2 hM3 hk1 hk2 hq hq1 hq2 htn hbx hbare hck hY hYs hmend hZ hZs hfg hgot hfgot hrZ htZ hgl hfull hs21
          refine (do_any B2 m2 q2 w4.heap.size _ _ 65536 (-1) 65536 (-1) false false 0 wkA X 0 0 _ (HH.out.glob.next hb4') HL4.out hs4 (Nat.le_refl _) (one_mild 65536 S su (by rw [HZU.out]; omega)).1 (by decide) hxm (by decide) (by decide) HDO.out).mono ?_
          rintro e w5 ⟨B5, m5, q5, rfl, hl5, hs5, hc5, hb5⟩
          have v5 := Var.below v4 hb5 v4.lt
          have hb5' := hb4'.trans (hb5.mono hb4'.size)
          have hb6' := hb5'.trans (set4_below (a := .slice B5 m5 q5) (b := .int .i64 65536) (c := .int .i64 (-1)) (d := .bool false) (W := w5) hg0)
          have hd6 := DkAt.step (d := D1 (S ++ X) su) hl5 hs5 hc5 v5 disk_noText
          have HD6 := Lib.hid hd6
          clear k0 k1 k2 k3 kf hs4 v4 hl5 hs5 hc5 hb5 hb4' hb5' hl4 hd6
          obtain ⟨k0, k1, k2, k3, kf⟩ := v5.cells4
          go_wp2_with fail
          have hd6 := HD6.out
          obtain ⟨w6, hw6⟩ : ∃ w6, w6 = (((w5.setCell ⟨g, 0, none⟩ (.slice B5 m5 q5)).setCell ⟨g, 1, none⟩ (.int .i64 65536)).setCell ⟨g, 2, none⟩ (.int .i64 (-1))).setCell ⟨g, 3, none⟩ (.bool false) := ⟨_, rfl⟩
          have hz65 : w6.heap.size = w5.heap.size := by rw [hw6]; simp
          rw [← hw6, ← hz65]
          rw [← hw6] at hb6' hd6
          clear hw6 HD6 k0 k1 k2 k3 kf v5 hz65
          obtain ⟨hl6, hs6, hc6, v6⟩ := hd6
          have hbk := bel1 w6 #[.int .i64 keep] 3
          have hcr := crash_valid B5 (some ⟨w6.heap.size, 0, none⟩) m5 q5 (w6.heap.size + 1) 1 1 [⟨wkA, S ++ X, (su : Int)⟩] [keep] 65536 (-1) false (w6.alloc (.cells #[.int .i64 keep] 3)) hl6 ((hs6.below hbk).up (by omega)) (by simp) HCK.out rfl (Seen.new w6 [.int .i64 keep] 3) (by intro x hx; rw [List.mem_singleton] at hx; omega)
          rw [HBARE.out] at hcr
          refine hcr.mono ?_
          rintro e w7 ⟨B7, m7, q7, rfl, hl7, hs7, hc7, hb7⟩
          have hb7' := (hb6'.trans (hbk.mono hb6'.size)).trans (hb7.mono (Nat.le_trans hb6'.size hbk.size))
          have HL7 := Lib.hid hl7
          clear hcr hbk hb7 hl7 hl6 hs6 hc6 v6 hb6'
          go_wp2_with fail
          have hbt := bel1 w7 #[.slice B7 m7 q7, .int .i64 65536, .int .i64 (-1), .bool false] 24
          have hb7x := hb7'.trans (hbt.mono hb7'.size)
          refine (fmend_any B7 m7 q7 w7.heap.size [⟨wkA, Y, (M : Int)⟩] 65536 (-1) false wkA (D1 Z s2) none _ (HH.out.glob.next hb7x) HL7.out (hs7.below hbt) (by simp) (one_mild 65536 Y M (by omega)) (by decide) HMEND.out).mono ?_
          rintro e w8 ⟨B8, m8, q8, ev8, rfl, hl8, hs8, hc8, hev8, hb8⟩
          obtain rfl : ev8 = .nilIface := hev8
          have hb8' := hb7x.trans (hb8.mono hb7x.size)
          have HL8 := Lib.hid hl8
          clear hbt hb7x hb7' hs7 hc7 hb8 hl8
          have hbm := bel1 w8 #[.slice B8 m8 q8, .int .i64 65536, .int .i64 (-1), .bool false] 24
          have u8 := new1 w8 #[.slice B8 m8 q8, .int .i64 65536, .int .i64 (-1), .bool false] 24
          have hb8x := hb8'.trans (hbm.mono hb8'.size)
          have hfl := fun W h1 h2 => floads_any B8 m8 q8 w8.heap.size [⟨wkA, Z, s2⟩] 65536 (-1) false wkA W HL8.out h1 h2 (one_mild 65536 Z s2 (by omega)).1
          have e1 : rowsIn (D1 Z s2) wkA = got := by unfold rowsIn; rw [one_get, HRZ.out]
          have e2 : tornIn (D1 Z s2) wkA = 0 := by unfold tornIn; rw [one_get, HTZ.out]
          rw [e1, e2] at hfl
          have HFL := Lib.hid hfl
          clear hfl e1 e2
          go_wp2_with fail
          refine (HFL.out _ (hs8.below hbm) (by simp)).mono ?_
          rintro e w9 ⟨A9, n9, c9, rfl, hl9, hs9, hc9, hb9⟩
          obtain rfl : n9 = k := hl9.symm.trans HGL.out
          have hb9' := hb8x.trans (hb9.mono hb8x.size)
          have u9 := Var.below u8 hb9 (by simp)
          have hs89 := (hs8.below hbm).below (hb9.mono (by simp))
          have hz89 : w8.heap.size ≤ w9.heap.size := Nat.le_trans hbm.size hb9.size
          clear HFL hbm hb8x hb8' hb9 u8 hs8 hc8 hl9
          -- all
          have hbe := bel1 w9 #[] 9
          obtain ⟨we, hwe⟩ : ∃ we, we = w9.alloc (.cells #[] 9) := ⟨_, rfl⟩
          have hmade := made_row w9
          rw [← hwe] at hbe hmade
          have hbe9 := hb9'.trans (hbe.mono hb9'.size)
          obtain ⟨Aa, ca, wa, hrun1, howna, hba⟩ := append_strs (c := c1) 25 hmade (HH.out.r1.seen.below hbe9) HH.out.r1.len hun0 hbe.size (by have := HH.out.h1; omega)
          rw [Nat.zero_add, List.nil_append] at howna
          rw [Nat.zero_add] at hrun1
          have hba9 := hb9'.trans ((hbe.trans hba).mono hb9'.size)
          obtain ⟨Ab, cb, wb, hrun2, hownb, hbb⟩ := append_strs (c := c2) 25 howna (HH.out.r2.seen.below hba9) HH.out.r2.len hvn0 (Nat.le_trans hbe.size hba.size) (by have := HH.out.h1; have := HH.out.h2; omega)
          have hb9b : Below w9.heap.size w9 wb := (hbe.trans hba).trans hbb
          obtain ⟨na, hna⟩ : ∃ na, na = n1 + n2 := ⟨_, rfl⟩
          rw [← hna] at hrun2 hownb hkn2
          have hsb := Seen.of_own hownb
          have hcb := own_room hownb
          have hnal : na = (us ++ vs).length := by rw [hna, HH.out.r1.len, HH.out.r2.len, List.length_append]
          have hcutD := cut_upto hnal hsb cb hkn2 hcb
          obtain ⟨D, hD, hsD⟩ := hcutD
          rw [← HGOT.out] at hsD
          have hbbw := hb9'.trans (hb9b.mono hb9'.size)
          have hs9b := hs9.below hb9b
          have u9b := Var.below u9 hb9b u9.lt
          have hs89b := hs89.below (hb9b.mono hz89)
          have hzb := hb9b.size
          have hcn1 : ¬ n9 < n1 := by omega
          have hcn2 : ¬ na < n9 := by omega
          have hn1m := HH.out.h1
          have hnam : na ≤ 200 := by have := HH.out.h1; have := HH.out.h2; omega
          rw [hwe] at hrun1
          clear hwe hmade hbe hbe9 howna hba hba9 hownb hbb hsb hnal hb9' hs9 u9 hs89 hna
          go_wp2_with (at_builtin; first | refine wpList_append_run rfl (.tmp 126) (.tmp 127) 25 rfl _ _ _ _ rfl rfl hrun1 ?_ | refine wpList_append_run rfl (.tmp 128) (.tmp 129) 25 rfl _ _ _ _ rfl rfl hrun2 ?_)
          refine (texts_any A9 D c9 cb n9 n9 got got _ HGL.out.symm HGL.out.symm (hs9b.up hzb) hsD (by omega) (by omega)).mono ?_
          rintro e w10 ⟨rfl, qq, rfl⟩
          rw [decide_eq_true rfl]
          obtain ⟨W, hW⟩ : ∃ W, W = wb.drewN qq := ⟨_, rfl⟩
          have hbq : Below wb.heap.size wb W := by rw [hW]; exact (Below.refl _ wb).drewN' qq
          have hbW : Below w.heap.size w W := hbbw.trans (hbq.mono hbbw.size)
          have u10 := Var.below u9b hbq u9b.lt
          have hsW := hs89b.below (hbq.mono (Nat.le_trans hz89 hzb))
          have hs9W := hs9b.below (hbq.mono hzb)
          have g8W : w8.heap.size ≤ W.heap.size := Nat.le_trans (Nat.le_trans hz89 hzb) hbq.size
          have g9W : w9.heap.size ≤ W.heap.size := Nat.le_trans hzb hbq.size
          rw [← hW]
          have hZm2 : Z.size ≤ 400000 := by omega
          clear hW hbq hbbw u9b hs89b hs9b hsD hD hrun1 hrun2 hcb hcn1 hcn2
          obtain ⟨k0, k1, k2, k3, kf⟩ := u10.cells4
          go_wp2_with fail
          rcases puts_ways1 hZ0 hZm hs20 hs2z xs with ⟨hfx, hx0, hx1, hpx⟩ | ⟨er, her, hpx⟩
          · have hxn0 : 0 < n3 := by
              rw [HH.out.r3.len]
              rcases Nat.eq_zero_or_pos xs.length with h | h
              · rw [List.eq_nil_of_length_eq_zero h] at hx0
                simp only [FP.sum] at hx0
                omega
              · exact h
            have hfin : fits (got ++ xs) = true := by rw [fits_all]; intro x hx; rcases List.mem_append.1 hx with h | h; exact fits_all.1 HFG.out x h; exact fits_all.1 hfx x h
            have hZx : Z ++ str (FP.flat xs) = str (FP.flat (got ++ xs)) := by rw [HBX.out, FP.flat_append, str_append]
            have hZxs : (Z ++ str (FP.flat xs)).size ≤ 65536 := by rw [ByteArray.size_append, str_size, FP.flat_length]; exact hx1
            obtain ⟨P, hP⟩ : ∃ P, P = Z ++ str (FP.flat xs) := ⟨_, rfl⟩
            obtain ⟨sp, hsp⟩ : ∃ sp : Int, sp = (Z.size : Int) + (FP.sum xs : Int) := ⟨_, rfl⟩
            rw [← hP] at hpx hZx hZxs
            rw [← hsp] at hpx
            have e1 : rowsIn (D1 P sp) wkA = got ++ xs := by unfold rowsIn; rw [one_get, hZx, bytesOf_str, FP.rows_all (fits_all.1 hfin)]
            have e2 : tornIn (D1 P sp) wkA = 0 := by unfold tornIn; rw [one_get, hZx, bytesOf_str, FP.torn_all (fits_all.1 hfin)]
            have HPX := Lib.hid hpx
            clear hfx hx0 hx1 hpx hfin hZx hP hsp
            refine (fput_any B8 A3 m8 q8 w8.heap.size n3 c3 w.heap.size [⟨wkA, Z, s2⟩] 65536 (-1) false wkA xs (D1 P sp) none _ (HH.out.glob.next hbW) HL8.out hsW g8W (one_mild 65536 Z s2 hZm2) (by decide) HH.out.r3.len.symm HH.out.h3 Z3.out (HH.out.r3.seen.below hbW) hbW.size HPX.out).mono ?_
            rintro e w11 ⟨B11, m11, q11, ev11, rfl, hl11, hs11, hc11, hev11, hb11⟩
            obtain rfl : ev11 = .nilIface := hev11
            have hb11' := hbW.trans (hb11.mono hbW.size)
            have hs911 := hs9W.below (hb11.mono g9W)
            have HL11 := Lib.hid hl11
            have g911 : w9.heap.size ≤ w11.heap.size := Nat.le_trans g9W hb11.size
            have hbp := bel1 w11 #[.slice B11 m11 q11, .int .i64 65536, .int .i64 (-1), .bool false] 24
            have hb11x := hb11'.trans (hbp.mono hb11'.size)
            have hfl := fun W h1 h2 => floads_any B11 m11 q11 w11.heap.size [⟨wkA, P, sp⟩] 65536 (-1) false wkA W HL11.out h1 h2 (one_mild 65536 P sp (by omega)).1
            rw [e1, e2] at hfl
            have HFL := Lib.hid hfl
            clear hfl e1 e2 k0 k1 k2 k3 kf u10 hsW hs9W hb11 hl11 hb11'
            go_wp2_with fail
            refine (HFL.out _ (hs11.below hbp) (by simp)).mono ?_
            rintro e w12 ⟨A12, n12, c12, rfl, hl12, hs12, hc12, hb12⟩
            have hb12' := hb11x.trans (hb12.mono hb11x.size)
            have hs912 := hs911.below ((hbp.trans (hb12.mono hbp.size)).mono g911)
            have g912 : w9.heap.size ≤ w12.heap.size := Nat.le_trans g911 (Nat.le_trans hbp.size hb12.size)
            have hbe := bel1 w12 #[] 9
            obtain ⟨we, hwe⟩ : ∃ we, we = w12.alloc (.cells #[] 9) := ⟨_, rfl⟩
            have hmade := made_row w12
            rw [← hwe] at hbe hmade
            have hn9p : 0 < n9 := by omega
            obtain ⟨Aa, ca, wa, hrun3, howna, hba⟩ := append_strs (c := c9) 25 hmade (hs912.below (hbe.mono g912)) HGL.out.symm hn9p hbe.size (by omega)
            rw [Nat.zero_add, List.nil_append] at howna
            rw [Nat.zero_add] at hrun3
            have hba9 := hb12'.trans ((hbe.trans hba).mono hb12'.size)
            have hn3m := HH.out.h3
            obtain ⟨Ab, cb2, wb2, hrun4, hownb, hbb⟩ := append_strs (c := c3) 25 howna (HH.out.r3.seen.below hba9) HH.out.r3.len hxn0 (Nat.le_trans hbe.size hba.size) (by omega)
            have hb12b : Below w12.heap.size w12 wb2 := (hbe.trans hba).trans hbb
            obtain ⟨nb, hnb⟩ : ∃ nb, nb = n9 + n3 := ⟨_, rfl⟩
            rw [← hnb] at hrun4 hownb
            have hsb := Seen.of_own hownb
            have hnbl : nb = (got ++ xs).length := by rw [hnb, List.length_append, HGL.out, ← HH.out.r3.len]
            obtain rfl : n12 = nb := hl12.symm.trans hnbl.symm
            have hb12w := hb12'.trans (hb12b.mono hb12'.size)
            have hs12b := (hs12.below hb12b).up hb12b.size
            have hnbm : n12 ≤ 140737488351232 := by omega
            have HNB := Lib.hid hnbl
            rw [hwe] at hrun3
            clear hwe hmade hbe hba9 hba howna hownb hbb hb12b hb12' hs12 hs912 hs911 hb12 hbp hb11x hl12 hs11 hnb hnbl
            go_wp2_with (at_builtin; first | refine wpList_append_on rfl (.tmp 184) (.tmp 185) 25 rfl _ _ _ _ rfl rfl hrun3 ?_ | refine wpList_append_on rfl (.tmp 186) (.tmp 187) 25 rfl _ _ _ _ rfl rfl hrun4 ?_)
            refine (texts_any A12 Ab c12 cb2 n12 n12 (got ++ xs) (got ++ xs) _ HNB.out HNB.out hs12b hsb hnbm hnbm).mono ?_
            rintro e w13 ⟨rfl, q13, rfl⟩
            rw [decide_eq_true rfl]
            have hb13 := hb12w.drewN' q13
            go_wp2_with fail
            refine (wakes_any _ (HH.out.glob.next hb13)).mono ?_
            rintro e w14 ⟨rfl, hb14⟩
            have hb14' := hb13.trans (hb14.mono hb13.size)
            clear hsb hs12b hrun3 hrun4
            go_wp2
            go_ret
            exact ⟨rfl, hb14'⟩
          · have HPX := Lib.hid hpx
            clear hpx
            refine (fput_any B8 A3 m8 q8 w8.heap.size n3 c3 w.heap.size [⟨wkA, Z, s2⟩] 65536 (-1) false wkA xs (D1 Z s2) (some (0, wkA, er)) _ (HH.out.glob.next hbW) HL8.out hsW g8W (one_mild 65536 Z s2 hZm2) (by decide) HH.out.r3.len.symm HH.out.h3 Z3.out (HH.out.r3.seen.below hbW) hbW.size HPX.out).mono ?_
            rintro e w11 ⟨B11, m11, q11, ev11, rfl, hl11, hs11, hc11, ⟨gf, rfl, hflt⟩, hb11⟩
            have hb11' := hbW.trans (hb11.mono hbW.size)
            have hbp := bel1 w11 #[.slice B11 m11 q11, .int .i64 65536, .int .i64 (-1), .bool false] 24
            have hb11x := hb11'.trans (hbp.mono hb11'.size)
            have hF : FltAt (w11.alloc (.cells #[.slice B11 m11 q11, .int .i64 65536, .int .i64 (-1), .bool false] 24)) gf 0 wkA er := Var.alloc hflt _
            have HF := Lib.hid hF
            clear hbp hb11' hb11 hflt hF hl11 hs11 hc11 k0 k1 k2 k3 kf u10 hsW hs9W
            rcases her with rfl | rfl
            · go_wp2_with fail
              refine (is_flt gf 0 wkA 2 31 _ HF.out).mono ?_
              rintro e w12 ⟨rfl, rfl⟩
              go_wp2_with fail
              refine (is_flt gf 0 wkA 2 2 _ HF.out).mono ?_
              rintro e w12 ⟨rfl, rfl⟩
              go_wp2_with fail
              refine (wakes_any _ (HH.out.glob.next hb11x)).mono ?_
              rintro e w14 ⟨rfl, hb14⟩
              have hb14' := hb11x.trans (hb14.mono hb11x.size)
              go_wp2
              go_ret
              exact ⟨rfl, hb14'⟩
            · go_wp2_with fail
              refine (is_flt gf 0 wkA 31 31 _ HF.out).mono ?_
              rintro e w12 ⟨rfl, rfl⟩
              go_wp2_with fail
              refine (wakes_any _ (HH.out.glob.next hb11x)).mono ?_
              rintro e w14 ⟨rfl, hb14⟩
              have hb14' := hb11x.trans (hb14.mono hb11x.size)
              go_wp2
              go_ret
              exact ⟨rfl, hb14'⟩
  · have HP := Lib.hid hpu
    clear hpu
    refine (fput_any B1 A1 m1 q1 w1.heap.size n1 c1 w.heap.size [] 65536 (-1) false wkA us D0 (some (0, wkA, er)) _ (HH.out.glob.next hb1') HL1.out hs1' (by simp) (none_mild 65536) (by decide) HH.out.r1.len.symm HH.out.h1 Z1.out (HH.out.r1.seen.below hb1') hb1'.size HP.out).mono ?_
    rintro e w2 ⟨B2, m2, q2, ev, rfl, hl2, hs2, hc2, ⟨gf, rfl, hflt⟩, hb2⟩
    have hb2' := hb1'.trans (hb2.mono hb1'.size)
    have v2 := Var.below v1 hb2 (by simp)
    obtain ⟨k0, k1, k2, k3, kf⟩ := v2.cells4
    have hb3' := hb2'.trans (set4_below (a := .slice B2 m2 q2) (b := .int .i64 65536) (c := .int .i64 (-1)) (d := .bool false) (W := w2) hg0)
    clear hs2 hflt hb2 hl2 hc2 hs1 hs1' hbt hb1 v1 v2
    go_wp2_with fail
    obtain ⟨w3, hw3⟩ : ∃ w3, w3 = (((w2.setCell ⟨w1.heap.size, 0, none⟩ (.slice B2 m2 q2)).setCell ⟨w1.heap.size, 1, none⟩ (.int .i64 65536)).setCell ⟨w1.heap.size, 2, none⟩ (.int .i64 (-1))).setCell ⟨w1.heap.size, 3, none⟩ (.bool false) := ⟨_, rfl⟩
    rw [← hw3] at hb3' ⊢
    clear hw3 k0 k1 k2 k3 kf
    refine (fbytes_any A2 n2 c2 w.heap.size vs _ HH.out.r2.len.symm HH.out.h2 Z2.out (HH.out.r2.seen.below hb3') hb3'.size).mono ?_
    rintro e w4 ⟨rfl, hb4⟩
    have hb4' := hb3'.trans (hb4.mono hb3'.size)
    go_wp2_with fail
    refine (wakes_any _ (HH.out.glob.next hb4')).mono ?_
    rintro e w5 ⟨rfl, hb5⟩
    have hb5' := hb4'.trans (hb5.mono hb4'.size)
    go_wp2
    go_ret
    exact ⟨rfl, hb5'⟩
theorem crash_all (hk : -9223372036854775808 ≤ keep ∧ keep ≤ 9223372036854775807)
    (hw1 : ∃ ls : List (List UInt8), n1 = ls.length ∧ Seen w w.heap.size A1 (strs ls) ∧ (∀ l ∈ ls, l.length ≤ maxLen) ∧ n1 ≤ c1 ∧ c1 ≤ maxLen)
    (hw2 : ∃ ls : List (List UInt8), n2 = ls.length ∧ Seen w w.heap.size A2 (strs ls) ∧ (∀ l ∈ ls, l.length ≤ maxLen) ∧ n2 ≤ c2 ∧ c2 ≤ maxLen)
    (hw3 : ∃ ls : List (List UInt8), n3 = ls.length ∧ Seen w w.heap.size A3 (strs ls) ∧ (∀ l ∈ ls, l.length ≤ maxLen) ∧ n3 ≤ c3 ∧ c3 ≤ maxLen) (hG : Glob w) :
    Calls Tryd.prog 4 #[.slice A1 n1 c1, .slice A2 n2 c2, .slice A3 n3 c3, .int .i64 keep] w fun e w' => e = .returned (.bool true) ∧ Below w.heap.size w w' := by
  have hml : maxLen ≤ 9223372036854775807 := by decide
  obtain ⟨us, a1, a2, a3, a4, a5⟩ := hw1
  obtain ⟨vs, b1, b2, b3, b4, b5⟩ := hw2
  obtain ⟨xs, e1, e2, e3, e4, e5⟩ := hw3
  have r1 : Rw A1 n1 us w := ⟨a1, a2, Nat.le_trans (Nat.le_trans a4 a5) hml, fun x hx => Nat.le_trans (a3 x hx) hml⟩
  have r2 : Rw A2 n2 vs w := ⟨b1, b2, Nat.le_trans (Nat.le_trans b4 b5) hml, fun x hx => Nat.le_trans (b3 x hx) hml⟩
  have r3 : Rw A3 n3 xs w := ⟨e1, e2, Nat.le_trans (Nat.le_trans e4 e5) hml, fun x hx => Nat.le_trans (e3 x hx) hml⟩
  by_cases hgr : 100 < n1 ∨ 100 < n2 ∨ 100 < n3 ∨ greatL us = true ∨ greatL vs = true ∨ greatL xs = true
  · exact crash_great A1 A2 A3 n1 c1 n2 c2 n3 c3 keep us vs xs w r1 r2 r3 hG hgr
  · have g (b : Bool) (h : b ≠ true) : b = false := by cases b; rfl; exact absurd rfl h
    exact crash_main A1 A2 A3 n1 c1 n2 c2 n3 c3 keep us vs xs w hk.1 hk.2 ⟨r1, r2, r3, by omega, by omega, by omega, g _ fun h => hgr (by simp [h]), g _ fun h => hgr (by simp [h]), g _ fun h => hgr (by simp [h]), hG⟩
end
end Go.Proofs.YtpppeadmhfggkaaDoor
