/-
  Contracts of Crash: what it returns and what it does to memory. Conditions: those that each theorem names.
-/
import Derived.Test.YtpppeadmhfggkaaDoorDskDel
import Derived.Test.YtpppeadmhfggkaaDoorDskDo
namespace Go.Proofs.YtpppeadmhfggkaaDoor
open Go.RowKit DP

theorem del_empty (A : Option Addr) (c base : Nat) (w : World) (hown : w.ownsRow base 54 3 (.slice A 0 c) 0 (fcells [])) (hbase : base ≤ w.heap.size) :
    Calls Tryd.prog 37 #[.slice A 0 c, .func (.func 38) #[] #[]] w (DelPost [] base w) := by
  obtain ⟨hs0, hnc⟩ := Seen.of_own3 hown
  go_enter Tryd.func37, Tryd.ntmps37
  go_wp2_with fail
  refine (index_any _ 0 c w.heap.size 0 (-1) [] _ rfl rfl hs0 (Nat.le_refl _) (by omega) (by rw [if_neg (by omega)])).mono ?_
  rintro e w1 ⟨rfl, hb1⟩
  have hown1 := own_below hown hb1
  go_wp2
  go_ret
  exact ⟨_, 0, c, rfl, rfl, hown1, hb1.mono hbase⟩

theorem left_is (fn fb : ByteArray) (s : Int) (o : Option Int) (h0 : 0 ≤ s) (h1 : s ≤ fb.size) :
    ∃ m : Nat, left ⟨fn, fb, s⟩ o = ⟨fn, fb.extract 0 m, (m : Int)⟩ ∧ m ≤ fb.size ∧ (m : Int) = s + (match o with | none => 0 | some k => min (max k 0) (fb.size - s)) := by
  obtain ⟨v, hv⟩ : ∃ v, v = s + (match o with | none => (0 : Int) | some k => min (max k 0) (fb.size - s)) := ⟨_, rfl⟩
  have hv0 : 0 ≤ v := by
    rw [hv]
    cases o with
    | none => simp only; omega
    | some k => simp only; omega
  have hv1 : v ≤ fb.size := by
    rw [hv]
    cases o with
    | none => simp only; omega
    | some k => simp only; omega
  refine ⟨v.toNat, ?_, by omega, by rw [← hv]; omega⟩
  have e : left ⟨fn, fb, s⟩ o = ⟨fn, fb.extract 0 v.toNat, v⟩ := by rw [hv]; rfl
  rw [e, show ((v.toNat : Nat) : Int) = v by omega]

/-- How far Crash has come: the first k files are what the crash leaves of them. -/
def Mix (fs R : List Fl) (keep : List Int) (k : Nat) : Prop := R.length = fs.length ∧ R.take k = (lefts fs keep).take k ∧ R.drop k = fs.drop k
theorem lefts_at (fs : List Fl) (keep : List Int) (k : Nat) : (lefts fs keep)[k]? = (fs[k]?).map (fun f => left f keep[k]?) := by
  induction fs generalizing keep k with
  | nil => rfl
  | cons x r ih =>
    cases keep with
    | nil =>
      rcases k with _ | k
      · rfl
      · have := ih [] k
        simpa [lefts] using this
    | cons y t =>
      rcases k with _ | k
      · rfl
      · have := ih t k
        simpa [lefts] using this
theorem lefts_length (fs : List Fl) (keep : List Int) : (lefts fs keep).length = fs.length := by
  induction fs generalizing keep with
  | nil => rfl
  | cons x r ih =>
    cases keep with
    | nil => simp [lefts, ih]
    | cons y t => simp [lefts, ih]
theorem Mix.at_ {fs R : List Fl} {keep : List Int} {k : Nat} (h : Mix fs R keep k) {f : Fl} (hf : fs[k]? = some f) : R[k]? = some f := by
  have h1 : (R.drop k)[0]? = (fs.drop k)[0]? := by rw [h.2.2]
  simpa [List.getElem?_drop, hf] using h1
theorem Mix.next {fs R : List Fl} {keep : List Int} {k : Nat} (h : Mix fs R keep k) {f : Fl} (hf : fs[k]? = some f) : Mix fs (R.set k (left f keep[k]?)) keep (k + 1) := by
  obtain ⟨hk, _⟩ := List.getElem?_eq_some_iff.1 hf
  have hl := lefts_at fs keep k
  rw [hf, Option.map_some] at hl
  obtain ⟨hk2, he⟩ := List.getElem?_eq_some_iff.1 hl
  obtain ⟨h1, h2, h3⟩ := h
  have hkR : k < (R.set k (left f keep[k]?)).length := by rw [List.length_set, h1]; exact hk
  refine ⟨by rw [List.length_set]; exact h1, ?_, ?_⟩
  · rw [List.take_succ_eq_append_getElem hkR, List.take_set_of_le (Nat.le_refl _), h2, List.take_succ_eq_append_getElem hk2, he]
    simp
  · rw [List.drop_set_of_lt (by omega)]
    have := congrArg (List.drop 1) h3
    simpa [List.drop_drop] using this
theorem Mix.all {fs R : List Fl} {keep : List Int} (h : Mix fs R keep fs.length) : R = lefts fs keep := by
  have h1 := h.2.1
  rwa [List.take_of_length_le (by rw [h.1]; exact Nat.le_refl _), List.take_of_length_le (by rw [lefts_length]; exact Nat.le_refl _)] at h1

set_option maxRecDepth 100000 in
set_option maxHeartbeats 1000000 in
theorem crash_invalid (A K : Option Addr) (n c B kn kc : Nat) (fs : List Fl) (cap left : Int) (down : Bool) (w : World) (hn : fs.length = n) (hs : Seen w B A (fcells fs)) (hB : B ≤ w.heap.size) (hsm : Small fs) (hc : check ⟨fs, cap, left, down⟩ = false) :
    Calls Tryd.prog 18 #[.agg #[.slice A n c, .int .i64 cap, .int .i64 left, .bool down], .slice K kn kc] w (DiskRes [] 0 0 false 2 w) := by
  have HN := Lib.hid hn
  have HC := Lib.hid hc
  clear hn hc
  go_enter Tryd.func18, Tryd.ntmps18
  go_wp2_with fail
  have hvs := new2 w #[.slice A n c, .int .i64 cap, .int .i64 left, .bool down] #[.slice none 0 0, .int .i64 0, .int .i64 0, .bool false] 24 24
  have hbs := bel2 w #[.slice A n c, .int .i64 cap, .int .i64 left, .bool down] #[.slice none 0 0, .int .i64 0, .int .i64 0, .bool false] 24 24
  refine (own_no A n c B fs cap left down _ HN.out HC.out hsm (hs.below (hbs.mono hB)) (by simp; omega)).mono ?_
  rintro e w1 ⟨rfl, hb1⟩
  have v1 := Var.below hvs.1 hb1 (by simp; omega)
  have v3 := Var.below hvs.2 hb1 (by simp)
  have hb1' : Below w.heap.size w w1 := hbs.trans (hb1.mono (by simp; omega))
  clear hvs hbs hb1
  obtain ⟨d0, d1, d2, d3, f1⟩ := v1.cells4
  obtain ⟨e0, e1, e2, e3, f3⟩ := v3.cells4
  go_wp2
  refine bodyPost_ret (v := .tuple #[.agg #[.slice none 0 0, .int .i64 0, .int .i64 0, .bool false], .int .i64 2]) (by simp [results, Tryd.results18, go_sem, e0, e1, e2, e3]) rfl ⟨none, 0, 0, rfl, rfl, Seen.nil _ _ _, Nat.le_refl _, ?_⟩
  repeat (first | with_reducible exact hb1' | refine Below.setCell ?_ (by simp; omega) _ | refine Below.setCell ?_ (by simp) _)

set_option maxRecDepth 100000 in
set_option maxHeartbeats 1000000 in
theorem crash_valid (A K : Option Addr) (n c B kn kc : Nat) (fs : List Fl) (keep : List Int) (cap left : Int) (down : Bool) (w : World) (hn : fs.length = n) (hs : Seen w B A (fcells fs)) (hB : B ≤ w.heap.size) (hc : check ⟨fs, cap, left, down⟩ = true)
    (hkn : keep.length = kn) (hks : Seen w B K (keep.map (Value.int .i64))) (hkw : ∀ x ∈ keep, -9223372036854775808 ≤ x ∧ x ≤ 9223372036854775807) :
    Calls Tryd.prog 18 #[.agg #[.slice A n c, .int .i64 cap, .int .i64 left, .bool down], .slice K kn kc] w (DiskRes ((lefts fs keep).filter (fun f => !bare f)) cap (-1) false 0 w) := by
  have HN := Lib.hid hn
  have HC := Lib.hid hc
  have HKN := Lib.hid hkn
  have hn64 : n ≤ 64 := by rw [← hn]; exact (check_parts hc).1
  clear hn hc hkn
  go_enter Tryd.func18, Tryd.ntmps18
  go_wp2_with fail
  have hvs := new2 w #[.slice A n c, .int .i64 cap, .int .i64 left, .bool down] #[.slice none 0 0, .int .i64 0, .int .i64 0, .bool false] 24 24
  have hbs := bel2 w #[.slice A n c, .int .i64 cap, .int .i64 left, .bool down] #[.slice none 0 0, .int .i64 0, .int .i64 0, .bool false] 24 24
  refine (own_yes A n c B fs cap left down _ HN.out HC.out (hs.below (hbs.mono hB)) (by simp; omega)).mono ?_
  rintro e w1 ⟨A1, c1, rfl, hown, hb1⟩
  have v1 := Var.below hvs.1 hb1 (by simp; omega)
  have v3 := Var.below hvs.2 hb1 (by simp)
  have hb1' : Below w.heap.size w w1 := hbs.trans (hb1.mono (by simp; omega))
  have hown1 := own_mono (base' := w.heap.size + 2) hown (by simp)
  have hz1 : w.heap.size + 2 ≤ w1.heap.size := by have := hb1.size; simp at this; omega
  clear hvs hbs hb1 hown
  obtain ⟨d0, d1, d2, d3, f1⟩ := v1.cells4
  obtain ⟨e0, e1, e2, e3, f3⟩ := v3.cells4
  go_wp2_with fail
  have u1 := set4_var (a := .slice A1 n c1) (b := .int .i64 cap) (c := .int .i64 left) (d := .bool down) v1
  have u3 := set4_other (a := .slice A1 n c1) (b := .int .i64 cap) (c := .int .i64 left) (d := .bool down) v3 (show w.heap.size + 1 ≠ w.heap.size by omega)
  have hown2 := set4_own (a := .slice A1 n c1) (b := .int .i64 cap) (c := .int .i64 left) (d := .bool down) hown1 (show w.heap.size < w.heap.size + 2 by omega)
  have hb2 := hb1'.trans (set4_below (a := .slice A1 n c1) (b := .int .i64 cap) (c := .int .i64 left) (d := .bool down) (W := w1) (Nat.le_refl w.heap.size))
  go_loopw [22] (fun i wr => ∃ (k : Nat) (R : List Fl), k ≤ n ∧ i = .int .i64 k ∧ Mix fs R keep k ∧ wr.ownsRow (w.heap.size + 2) 54 3 (.slice A1 n c1) n (fcells R) ∧ Var wr w.heap.size 24 #[.slice A1 n c1, .int .i64 cap, .int .i64 left, .bool down] ∧
      Var wr (w.heap.size + 1) 24 #[.slice none 0 0, .int .i64 0, .int .i64 0, .bool false] ∧ Below w.heap.size w wr) (fun i _ => n - (intOf i).toNat)
  case atStart => exact ⟨0, fs, by omega, rfl, ⟨rfl, by simp, rfl⟩, hown2, u1, u3, hb2⟩
  case round =>
    obtain ⟨k, R, hk, rfl, hmix, hownr, q1, q3, hbr⟩ := hrel
    have HM := Lib.hid hmix
    have hRn : R.length = n := by rw [← HN.out]; exact hmix.1
    have HRN := Lib.hid hRn
    clear hmix hRn hown2 u1 u3 hb2 d0 d1 d2 d3 f1 e0 e1 e2 e3 f3 hown1 v1 v3 hb1'
    obtain ⟨d0, d1, d2, d3, f1⟩ := q1.cells4
    obtain ⟨e0, e1, e2, e3, f3⟩ := q3.cells4
    have hgl := q1.lt
    have hbz := hbr.size
    by_cases hlt : k < n
    · obtain ⟨f, hf⟩ := file_here HN.out hlt
      have hok := (check_sorted HC.out).2 f (List.mem_of_getElem? hf)
      have hsmall := (check_small HC.out).2 f (List.mem_of_getElem? hf)
      obtain ⟨_, hb0, hs1, hs2⟩ := okFl_parts hok
      have hfR := HM.out.at_ hf
      have hmn := HM.out.next hf
      obtain ⟨fn, fb, s⟩ := f
      simp only at hb0 hs1 hs2 hsmall
      obtain ⟨hfb, hfn⟩ := hsmall
      obtain ⟨g, off, hA1, _⟩ := (Seen.of_own3 hownr).1 (by intro e; have := fcells_length R; rw [e, HRN.out] at this; simp at this; omega)
      obtain rfl : off = 0 := by
        rcases hownr.2 with ⟨h, _⟩ | ⟨g', _, _, h, _⟩
        · rw [hA1] at h; simp at h
        · rw [hA1] at h; simp at h; exact h.1.2
      subst hA1
      obtain ⟨x0, x1, x2, xf⟩ := row_cells hownr HRN.out hfR
      obtain ⟨m, hlm, hm1, hmv⟩ := left_is fn fb s keep[k]? hs1 hs2
      rw [hlm] at hmn
      have HMN := Lib.hid hmn
      have HMV := Lib.hid hmv
      clear hf hok hfR hmn hmv hlm
      go_upto_if 32 with fail
      go_cut [9] (fun s9 wx => s9 = .int .i64 (m : Int) ∧ ∃ q, wx = (wr.alloc (.cells #[.string fn, .string fb, .int .i64 s] 54)).drewN q)
      case first =>
        by_cases hki : k < kn
        · obtain ⟨kv, hkv⟩ : ∃ kv, keep[k]? = some kv := ⟨_, List.getElem?_eq_getElem (by rw [HKN.out]; exact hki)⟩
          obtain ⟨hkv1, hkv2⟩ := hkw kv (List.mem_of_getElem? hkv)
          obtain ⟨kb, ko, rfl, hkb, hkc⟩ := (hks.below (hbr.mono hB)) (by intro e; rw [List.map_eq_nil_iff] at e; rw [e] at hkv; simp at hkv)
          have y0 := hkc k (.int .i64 kv) (by rw [List.getElem?_map, hkv]; rfl)
          have hmv := HMV.out
          rw [hkv] at hmv
          simp only at hmv
          have HMVK := Lib.hid hmv
          have hkl : kb < wr.heap.size := by omega
          clear hkv hkc hmv
          go_wp2_with fail
          refine wp_region_quiet_lit (by kernel_rfl) (by kernel_rfl) ?_
          repeat (go_big_quiet_step (fail))
          all_goals (refine wpQuiet_nil ?_; intro _ hw'; obtain ⟨nq, hw''⟩ := hw'; subst hw'')
          go_wp2_with fail
          go_meet
          exact ⟨by rw [HMVK.out], _, rfl⟩
        · have hmv := HMV.out
          rw [List.getElem?_eq_none (by rw [HKN.out]; omega)] at hmv
          simp only at hmv
          have HMVK := Lib.hid hmv
          clear hmv
          go_wp2_with fail
          go_meet
          exact ⟨by rw [HMVK.out, Int.add_zero], 0, rfl⟩
      case rest =>
        obtain ⟨rfl, q, rfl⟩ := hcut
        obtain ⟨w4, hw4⟩ : ∃ w4, w4 = (wr.alloc (.cells #[.string fn, .string fb, .int .i64 s] 54)).drewN q := ⟨_, rfl⟩
        have v8 : Var w4 wr.heap.size 54 #[.string fn, .string fb, .int .i64 s] := by rw [hw4]; exact new1 wr _ _
        have p1 : Var w4 w.heap.size 24 #[.slice (some ⟨g, 0, none⟩) n c1, .int .i64 cap, .int .i64 left, .bool down] := by rw [hw4]; exact q1.alloc _
        have p3 : Var w4 (w.heap.size + 1) 24 #[.slice none 0 0, .int .i64 0, .int .i64 0, .bool false] := by rw [hw4]; exact q3.alloc _
        have hown4 : w4.ownsRow (w.heap.size + 2) 54 3 (.slice (some ⟨g, 0, none⟩) n c1) n (fcells R) := by rw [hw4]; exact hownr.alloc _
        have hb4 : Below w.heap.size w w4 := by rw [hw4]; exact (hbr.alloc hbz _).drewN' _
        rw [← hw4]
        clear hw4 d0 d1 d2 d3 f1 e0 e1 e2 e3 f3 x0 x1 x2 xf q1 q3 hownr hbr
        obtain ⟨d0, d1, d2, d3, f1⟩ := p1.cells4
        obtain ⟨i0, i1, i2, f4⟩ := v8.cells3
        have hkk : ∀ w5, Below w4.drew.heap.size w4.drew w5 → Below w4.heap.size w4 w5 ∧ Var w5 w.heap.size 24 #[.slice (some ⟨g, 0, none⟩) n c1, .int .i64 cap, .int .i64 left, .bool down] ∧ w5.ownsRow (w.heap.size + 2) 54 3 (.slice (some ⟨g, 0, none⟩) n c1) n (fcells R) := fun w5 hb =>
          have hb' : Below w4.heap.size w4 w5 := (Below.refl _ w4).drew.trans hb
          ⟨hb', p1.below hb' p1.lt, own_below hown4 hb'⟩
        have HKK := Lib.hid hkk
        clear hkk
        obtain ⟨fk, hfk⟩ := file_here HRN.out hlt
        go_upto_region 10 with fail
        go_region_with ((go_at_call 36; refine (changed3 fn fb { data := #[] } s m _ (by omega) hm1).mono ?_; rintro e w5 ⟨rfl, hb5⟩; obtain ⟨hb5', q5, hown5⟩ := HKK.out w5 hb5; obtain ⟨j0, _, _, _, _⟩ := q5.cells4; obtain ⟨k0, k1, k2, kf⟩ := row_cells hown5 HRN.out hfk))
        all_goals
          have hput := row_put hown5 HRN.out hlt ⟨fn, fb.extract 0 m, (m : Int)⟩
          have hbg := (row_base hown5).1
          have hne1 : w.heap.size ≠ g := by omega
          have hne2 : w.heap.size + 1 ≠ g := by omega
          have hb5w : Below w.heap.size w w5 := hb4.trans (hb5'.mono hb4.size)
          have p3' := p3.below hb5' p3.lt
          have hbg' : w.heap.size ≤ g := by omega
          go_wp2
          go_roundw
          case rel => exact ⟨k + 1, _, by omega, by go_num, HMN.out, hput, ((q5.other (k * 3) _ hne1).other (k * 3 + 1) _ hne1).other (k * 3 + 2) _ hne1, ((p3'.other (k * 3) _ hne2).other (k * 3 + 1) _ hne2).other (k * 3 + 2) _ hne2, ((hb5w.setCell hbg' _).setCell hbg' _).setCell hbg' _⟩
          case measure => simp [intOf]; omega
    · have hke : k = n := by omega
      subst hke
      have hall : R = lefts fs keep := by
        have h := HM.out
        rw [← HN.out] at h
        exact h.all
      have hdel : ∀ wx, wx.ownsRow (w.heap.size + 2) 54 3 (.slice A1 k c1) k (fcells R) → w.heap.size + 2 ≤ wx.heap.size → Calls Tryd.prog 37 #[.slice A1 k c1, .func (.func 38) #[] #[]] wx (DelPost ((lefts fs keep).filter (fun f => !bare f)) (w.heap.size + 2) wx) := fun wx h hz => by
        rw [← hall]
        rcases h.2 with ⟨hv, h0⟩ | ⟨g, cap, cur, hv, _⟩
        · subst h0
          obtain rfl : R = [] := List.eq_nil_of_length_eq_zero HRN.out
          exact del_empty A1 c1 _ wx h hz
        · injection hv with h1 h2 h3
          subst h1
          exact del_any g k c1 _ R wx HRN.out h (by omega)
      have HDEL := Lib.hid hdel
      have hz2 : w.heap.size + 2 ≤ wr.heap.size := by have := q3.lt; omega
      clear hdel hall
      go_wp2_with fail
      refine (HDEL.out wr hownr hz2).mono ?_
      rintro e w6 ⟨A6, m6, c6, rfl, hl6, hown6, hb6⟩
      have HL6 := Lib.hid hl6
      have r1 := Var.below q1 hb6 (by omega)
      have r3 := Var.below q3 hb6 (by omega)
      have hb6w : Below w.heap.size w w6 := hbr.trans (hb6.mono (by omega))
      obtain ⟨hs6, hmc6⟩ := Seen.of_own3 hown6
      have ha1 := seen_apart hs6 r1 disk_noText
      have ha3 := seen_apart hs6 r3 disk_noText
      clear hl6 d0 d1 d2 d3 f1 e0 e1 e2 e3 f3 hownr q1 q3
      obtain ⟨d0, d1, d2, d3, f1⟩ := r1.cells4
      obtain ⟨e0, e1, e2, e3, f3⟩ := r3.cells4
      go_wp2
      refine bodyPost_ret (v := .tuple #[.agg #[.slice A6 m6 c6, .int .i64 cap, .int .i64 (-1), .bool false], .int .i64 0]) (by simp [results, Tryd.results18, go_sem, e0, e1, e2, e3]) rfl ⟨A6, m6, c6, rfl, HL6.out, ?_, hmc6, ?_⟩
      · exact (((((((hs6.off ha1).off ha1).off ha1).off ha3).off ha3).off ha3).off ha3).up (by simp)
      · repeat (first | with_reducible exact hb6w | refine Below.setCell ?_ (by simp; omega) _ | refine Below.setCell ?_ (by simp) _)

end Go.Proofs.YtpppeadmhfggkaaDoor
