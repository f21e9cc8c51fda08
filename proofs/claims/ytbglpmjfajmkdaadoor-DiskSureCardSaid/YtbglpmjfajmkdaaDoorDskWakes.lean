/-
  The contract of wakes: it returns true; what was there is as it was. Condition: the one package variable of errors holds what the program's text lays (Glob).
-/
import Derived.Test.YtbglpmjfajmkdaaDoorDskCrash
import Derived.Test.YtbglpmjfajmkdaaDoorDskNew
namespace Go.Proofs.YtbglpmjfajmkdaaDoor
open Go.RowKit DP

def aN : ByteArray := { data := #[97] }
def bcN : ByteArray := { data := #[98, 99] }
theorem wk_a : okName aN = true := by decide
theorem wk_get (b : ByteArray) (s : Int) : DP.get [⟨aN, b, s⟩] aN = some ⟨aN, b, s⟩ := by
  unfold DP.get
  rw [List.find?_cons_of_pos (by exact eqS_self _)]
theorem wk_put (b b' : ByteArray) (s s' : Int) (h : 0 < b'.size) : put [⟨aN, b, s⟩] ⟨aN, b', s'⟩ = [⟨aN, b', s'⟩] := by
  unfold put opt
  rw [if_neg (by simp only; omega), List.filter_cons_of_neg (by simp [ltS_irrefl]), List.filter_cons_of_neg (by simp [ltS_irrefl])]
  rfl
theorem wk_check (b : ByteArray) (s : Int) (h : 0 < b.size) (h' : b.size ≤ 100) (h0 : 0 ≤ s) (h1 : s ≤ b.size) : check ⟨[⟨aN, b, s⟩], 100, -1, false⟩ = true := by
  apply check_mk
  · simp
  · simp
  · simp
  · simp [used]; omega
  · simp only [rises, Bool.and_true, Bool.and_eq_true]
    exact ⟨okFl_mk wk_a h h0 h1, ltS_none (by decide)⟩
theorem wk_does (b b' : ByteArray) (s s' : Int) (w : Wr) (h : 0 < b.size) (h' : b.size ≤ 100) (h0 : 0 ≤ s) (h1 : s ≤ b.size) (hop : isOp w = true) (hf : w.file = aN) (hk : w.n ≤ b.size) (hch : changed ⟨aN, b, s⟩ w = ⟨aN, b', s'⟩) (hb' : 0 < b'.size) (hb2 : b'.size ≤ 100) :
    does ⟨[⟨aN, b, s⟩], 100, -1, false⟩ w = (⟨[⟨aN, b', s'⟩], 100, -1, false⟩, 0) := by
  have hc := wk_check b s h h' h0 h1
  unfold does
  rw [if_neg (by rw [hc, hop]; simp), if_neg (by simp), if_neg (by simp)]
  unfold done
  simp only [hf, wk_get, Option.getD_some]
  rw [if_neg (by simp), if_neg (by omega), hch, wk_put _ _ _ _ hb']
  simp [used]
  omega
theorem wk_does1 : does ⟨[], 100, -1, false⟩ ⟨0, { data := #[97] }, { data := #[97] }, 0⟩ = (⟨[⟨{ data := #[97] }, { data := #[97] }, 0⟩], 100, -1, false⟩, 0) := by
  have hc : check ⟨[], 100, -1, false⟩ = true := by decide
  have hop : isOp ⟨0, { data := #[97] }, { data := #[97] }, 0⟩ = true := by decide
  unfold does
  rw [if_neg (by rw [hc, hop]; simp), if_neg (by simp), if_neg (by simp)]
  rfl
theorem wk_does2 : does ⟨[⟨{ data := #[97] }, { data := #[97] }, 0⟩], 100, -1, false⟩ ⟨1, { data := #[97] }, { data := #[] }, 0⟩ = (⟨[⟨{ data := #[97] }, { data := #[97] }, 1⟩], 100, -1, false⟩, 0) :=
  wk_does aN aN 0 1 ⟨1, { data := #[97] }, { data := #[] }, 0⟩ (by decide) (by decide) (by decide) (by decide) (by decide) rfl (by decide) rfl (by decide) (by decide)
theorem wk_does3 : does ⟨[⟨{ data := #[97] }, { data := #[97] }, 1⟩], 100, -1, false⟩ ⟨0, { data := #[97] }, { data := #[98, 99] }, 0⟩ = (⟨[⟨{ data := #[97] }, { data := #[97, 98, 99] }, 1⟩], 100, -1, false⟩, 0) :=
  wk_does aN { data := #[97, 98, 99] } 1 1 ⟨0, { data := #[97] }, { data := #[98, 99] }, 0⟩ (by decide) (by decide) (by decide) (by decide) (by decide) rfl (by decide) (by rfl) (by decide) (by decide)
theorem wk_crash : (lefts [⟨{ data := #[97] }, { data := #[97, 98, 99] }, 1⟩] [1]).filter (fun f => !bare f) = [⟨{ data := #[97] }, { data := #[97, 98] }, 2⟩] := by rfl

theorem one_small (b : ByteArray) (s : Int) (h : b.size ≤ 100) : Small [⟨{ data := #[97] }, b, s⟩] := ⟨by simp, fun f hf => by
  rw [List.mem_singleton] at hf
  subst hf
  exact ⟨by simp only; omega, by show (1 : Nat) ≤ 100; omega⟩⟩

def WkRel (fs : List Fl) (g : Nat) (w wx : World) : Prop :=
  ∃ A m c, fs.length = m ∧ Seen wx wx.heap.size A (fcells fs) ∧ m ≤ c ∧ Var wx g 24 #[.slice A m c, .int .i64 100, .int .i64 (-1), .bool false] ∧ w.heap.size ≤ g ∧ Below w.heap.size w wx
/-- One step: what Do hands back is stored into the variable. -/
theorem WkRel.step {fs : List Fl} {g m c : Nat} {A : Option Addr} {w w6 : World} {o0 o1 o2 o3 : Value} (hl : fs.length = m) (hs : Seen w6 w6.heap.size A (fcells fs)) (hc : m ≤ c) (hv : Var w6 g 24 #[o0, o1, o2, o3])
    (ho : ∀ (i : Nat) (s : ByteArray), (#[o0, o1, o2, o3] : Array Value)[i]? ≠ some (Value.string s)) (hg : w.heap.size ≤ g) (hb : Below w.heap.size w w6) :
    WkRel fs g w ((((w6.setCell ⟨g, 0, none⟩ (.slice A m c)).setCell ⟨g, 1, none⟩ (.int .i64 100)).setCell ⟨g, 2, none⟩ (.int .i64 (-1))).setCell ⟨g, 3, none⟩ (.bool false)) :=
  have ha := seen_apart hs hv ho
  ⟨A, m, c, hl, ((((hs.off ha).off ha).off ha).off ha).up (by simp), hc, set4_var hv, hg, hb.trans (set4_below hg)⟩

set_option maxRecDepth 100000 in
set_option maxHeartbeats 4000000 in
theorem wakes_any (w : World) (hG : Glob w) : Calls Tryd.prog 11 #[] w fun e w' => e = .returned (.bool true) ∧ Below w.heap.size w w' := by
    have HG := Lib.hid hG
    clear hG
    go_enter Tryd.func11, Tryd.ntmps11
    go_wp2_with fail
    refine (new_any 100 100 (-1) [] false 0 _ (by rfl)).mono ?_
    rintro e w1 ⟨A1, m1, c1, rfl, hl1, hs1, hc1, hb1⟩
    go_wp2_with fail
    obtain ⟨W0, hW0⟩ : ∃ W0, W0 = w1.alloc (.cells #[.slice A1 m1 c1, .int .i64 100, .int .i64 (-1), .bool false] 24) := ⟨_, rfl⟩
    obtain ⟨g, hg⟩ : ∃ g, g = w1.heap.size := ⟨_, rfl⟩
    have hrel0 : WkRel [] g w W0 := by
      rw [hW0, hg]
      exact ⟨A1, m1, c1, hl1, Seen.nil _ _ _, hc1, new1 w1 _ _, hb1.size, hb1.alloc hb1.size _⟩
    rw [← hW0, ← hg]
    clear hW0 hg hl1 hs1 hc1 hb1
    obtain ⟨A0, m0, c0, hl0, hs0, hc0, v0, hg0, hb0⟩ := hrel0
    have HL0 := Lib.hid hl0
    obtain ⟨d0, d1, d2, d3, f1⟩ := v0.cells4
    have hG0 : Glob W0 := HG.out.next hb0
    clear hl0
    have hkk : ∀ w5, Below W0.drew.heap.size W0.drew w5 → Below W0.heap.size W0 w5 ∧ Var w5 g 24 #[.slice A0 m0 c0, .int .i64 100, .int .i64 (-1), .bool false] ∧ Seen w5 W0.heap.size A0 (fcells []) ∧ Glob w5 := fun w5 hb =>
      have hb' : Below W0.heap.size W0 w5 := (Below.refl _ W0).drew.trans hb
      ⟨hb', v0.below hb' v0.lt, hs0.below hb', hG0.next hb'⟩
    have HKK := Lib.hid hkk
    clear hkk
    go_upto_region 2 with fail
    go_cut [3] (fun sx wx => sx = .int .i64 0 ∧ WkRel [⟨{ data := #[97] }, { data := #[97] }, 0⟩] g w wx)
    case first =>
      go_region_with (first
        | (go_at_call 32; refine (put_any { data := #[97] } { data := #[97] } _).mono ?_; rintro e w5 ⟨rfl, hb5⟩; obtain ⟨hb5', v5, hs5, hG5⟩ := HKK.out w5 hb5; obtain ⟨j0, j1, j2, j3, _⟩ := v5.cells4)
        | (go_at_call 12; refine (do_any A0 m0 c0 W0.heap.size _ _ 100 (-1) 100 (-1) false false 0 { data := #[97] } { data := #[97] } 0 0 _ hG5 HL0.out hs5 hb5'.size ⟨by simp, fun f hf => by cases hf⟩ (by decide) (by decide) (by decide) (by decide) wk_does1).mono ?_; rintro e w6 ⟨A6, m6, c6, rfl, hl6, hs6, hm6, hb6⟩; have HL6 := Lib.hid hl6; clear hl6; have v6 := Var.below v5 hb6 v5.lt; obtain ⟨k0, k1, k2, k3, kf⟩ := v6.cells4))
      all_goals
        go_wp2_with fail
        go_meet
        exact ⟨rfl, WkRel.step HL6.out hs6 hm6 v6 disk_noText hg0 ((hb0.trans (hb5'.mono hb0.size)).trans (hb6.mono (Nat.le_trans hb0.size hb5'.size)))⟩
    case rest =>
    obtain ⟨rfl, hrel1⟩ := hcut
    obtain ⟨W1, hW1⟩ : ∃ W1, W1 = wc := ⟨_, rfl⟩
    rw [← hW1] at hrel1 ⊢
    clear hW1 HKK d0 d1 d2 d3 f1
    obtain ⟨A1, m1, c1, hl1, hs1, hc1, v1, hg1, hb1⟩ := hrel1
    have HL1 := Lib.hid hl1
    obtain ⟨d0, d1, d2, d3, f1⟩ := v1.cells4
    have hG1 : Glob W1 := HG.out.next hb1
    clear hl1
    go_wp2_with fail
    refine (do_any A1 m1 c1 W1.heap.size _ _ 100 (-1) 100 (-1) false false 1 { data := #[97] } { data := #[] } 0 0 _ hG1 HL1.out hs1 (Nat.le_refl _) (one_small _ _ (by decide)) (by decide) (by decide) (by decide) (by decide) wk_does2).mono ?_
    rintro e w6 ⟨A6, m6, c6, rfl, hl6, hs6, hm6, hb6⟩
    have v6 := Var.below v1 hb6 v1.lt
    have hrel2 := WkRel.step hl6 hs6 hm6 v6 disk_noText hg1 (hb1.trans (hb6.mono hb1.size))
    clear d0 d1 d2 d3 f1
    obtain ⟨d0, d1, d2, d3, f1⟩ := v6.cells4
    have HREL2 := Lib.hid hrel2
    clear hrel2 hl6
    go_upto_region 4 with fail
    have hrel2 := HREL2.out
    obtain ⟨W2, hW2⟩ : ∃ W2, W2 = (((w6.setCell ⟨g, 0, none⟩ (.slice A6 m6 c6)).setCell ⟨g, 1, none⟩ (.int .i64 100)).setCell ⟨g, 2, none⟩ (.int .i64 (-1))).setCell ⟨g, 3, none⟩ (.bool false) := ⟨_, rfl⟩
    rw [← hW2] at hrel2 ⊢
    clear hW2 HREL2 d0 d1 d2 d3 f1 v6 hs6 hm6 hb6
    obtain ⟨A2, m2, c2, hl2, hs2, hc2, v2, hg2, hb2⟩ := hrel2
    have HL2 := Lib.hid hl2
    obtain ⟨d0, d1, d2, d3, f1⟩ := v2.cells4
    have hG2 : Glob W2 := HG.out.next hb2
    clear hl2
    have hkk : ∀ w5, Below W2.drew.heap.size W2.drew w5 → Below W2.heap.size W2 w5 ∧ Var w5 g 24 #[.slice A2 m2 c2, .int .i64 100, .int .i64 (-1), .bool false] ∧ Seen w5 W2.heap.size A2 (fcells [⟨{ data := #[97] }, { data := #[97] }, 1⟩]) ∧ Glob w5 := fun w5 hb =>
      have hb' : Below W2.heap.size W2 w5 := (Below.refl _ W2).drew.trans hb
      ⟨hb', v2.below hb' v2.lt, hs2.below hb', hG2.next hb'⟩
    have HKK := Lib.hid hkk
    clear hkk
    go_upto_region 4 with fail
    go_cut [5] (fun sx wx => sx = .int .i64 0 ∧ WkRel [⟨{ data := #[97] }, { data := #[97, 98, 99] }, 1⟩] g w wx)
    case first =>
      go_region_with (first
        | (go_at_call 32; refine (put_any { data := #[97] } { data := #[98, 99] } _).mono ?_; rintro e w5 ⟨rfl, hb5⟩; obtain ⟨hb5', v5, hs5, hG5⟩ := HKK.out w5 hb5; obtain ⟨j0, j1, j2, j3, _⟩ := v5.cells4)
        | (go_at_call 12; refine (do_any A2 m2 c2 W2.heap.size _ _ 100 (-1) 100 (-1) false false 0 { data := #[97] } { data := #[98, 99] } 0 0 _ hG5 HL2.out hs5 hb5'.size (one_small _ _ (by decide)) (by decide) (by decide) (by decide) (by decide) wk_does3).mono ?_; rintro e w6 ⟨A6, m6, c6, rfl, hl6, hs6, hm6, hb6⟩; have HL6 := Lib.hid hl6; clear hl6; have v6 := Var.below v5 hb6 v5.lt; obtain ⟨k0, k1, k2, k3, kf⟩ := v6.cells4))
      all_goals
        go_wp2_with fail
        go_meet
        exact ⟨rfl, WkRel.step HL6.out hs6 hm6 v6 disk_noText hg2 ((hb2.trans (hb5'.mono hb2.size)).trans (hb6.mono (Nat.le_trans hb2.size hb5'.size)))⟩
    case rest =>
    obtain ⟨rfl, hrel3⟩ := hcut
    obtain ⟨W3, hW3⟩ : ∃ W3, W3 = wc := ⟨_, rfl⟩
    rw [← hW3] at hrel3 ⊢
    clear hW3 HKK d0 d1 d2 d3 f1
    obtain ⟨A3, m3, c3, hl3, hs3, hc3, v3, hg3, hb3⟩ := hrel3
    have HL3 := Lib.hid hl3
    obtain ⟨d0, d1, d2, d3, f1⟩ := v3.cells4
    have hG3 : Glob W3 := HG.out.next hb3
    clear hl3
    go_wp2_with fail
    have hbk := bel1 W3 #[.int .i64 1] 3
    have hcr := crash_valid A3 (some ⟨W3.heap.size, 0, none⟩) m3 c3 (W3.heap.size + 1) 1 1 [⟨{ data := #[97] }, { data := #[97, 98, 99] }, 1⟩] [1] 100 (-1) false (W3.alloc (.cells #[.int .i64 1] 3)) HL3.out ((hs3.below hbk).up (by omega)) (by simp) (wk_check _ _ (by decide) (by decide) (by decide) (by decide)) rfl (Seen.new W3 [.int .i64 1] 3) (by intro x hx; rw [List.mem_singleton] at hx; omega)
    rw [wk_crash] at hcr
    refine hcr.mono ?_
    rintro e w4 ⟨A4, m4, c4, rfl, hl4, hs4, hc4, hb4⟩
    have hb4' : Below w.heap.size w w4 := (hb3.trans (hbk.mono hb3.size)).trans (hb4.mono (by have := hb3.size; simp; omega))
    have HL4 := Lib.hid hl4
    have hz4 := hb4'.size
    clear hcr hl4 hbk d0 d1 d2 d3 f1 hb4
    go_wp2_with fail
    have hbs := bel1 w4 #[.slice A4 m4 c4, .int .i64 100, .int .i64 (-1), .bool false] 24
    refine (get_some A4 m4 c4 w4.heap.size [⟨{ data := #[97] }, { data := #[97, 98] }, 2⟩] 100 (-1) false { data := #[97] } _ ⟨{ data := #[97] }, { data := #[97, 98] }, 2⟩ (wk_get _ _) HL4.out (hs4.below hbs) (by simp) (by have := HL4.out; simp at this; omega)).mono ?_
    rintro e w5 ⟨rfl, hb5⟩
    have hb5' : Below w.heap.size w w5 := (hb4'.trans (hbs.mono hz4)).trans (hb5.mono (by simp; omega))
    have hz5 := hb5'.size
    go_wp2
    go_ret
    exact ⟨rfl, hb5'.alloc hz5 _⟩

end Go.Proofs.YtbglpmjfajmkdaaDoor
