/-
  Contracts of the reference's Get, and of Same, the program's and the reference's: what each returns and what it does to memory. Conditions: those that each theorem names.
-/
import Derived.Test.YtpppeadmhfggkaaGreatDoorDskSame
import Derived.Test.YtpppeadmhfggkaaGreatDoorFilG1
namespace Go.Proofs.YtpppeadmhfggkaaGreatDoor
open Go.RowKit DP

theorem get_step {fs : List Fl} {k : Nat} {f : Fl} (h : fs[k]? = some f) (name : ByteArray) : DP.get (fs.drop k) name = if eqS f.n name then some f else DP.get (fs.drop (k + 1)) name := by
  obtain ⟨hk, hf⟩ := List.getElem?_eq_some_iff.1 h
  rw [List.drop_eq_getElem_cons hk, hf]
  unfold DP.get
  rw [List.find?_cons]
  cases eqS f.n name <;> rfl
set_option maxRecDepth 100000 in
set_option maxHeartbeats 1000000 in
theorem ref_get_any (A : Option Addr) (n c B : Nat) (fs : List Fl) (cap left : Int) (down : Bool) (name fn fb : ByteArray) (s : Int) (th : Bool) (w : World) (hg : GetRes fs name fn fb s th) (hn : fs.length = n) (hs : Seen w B A (fcells fs)) (hB : B ≤ w.heap.size) (h100 : n ≤ 100) :
    Calls Tryz.prog 33 #[.agg #[.slice A n c, .int .i64 cap, .int .i64 left, .bool down], .string name] w fun e w' => e = .returned (.tuple #[.agg #[.string fn, .string fb, .int .i64 s], .bool th]) ∧ Below w.heap.size w w' := by
  have HN := Lib.hid hn
  have HG := Lib.hid hg
  clear hn hg
  have hbs := bel2 w #[.slice A n c, .int .i64 cap, .int .i64 left, .bool down] #[.string { data := #[] }, .string { data := #[] }, .int .i64 0] 24 48
  go_enter Tryz.func33, Tryz.ntmps33
  go_wp2
  go_loopw [6] (fun i wr => ∃ (k : Nat), k ≤ n ∧ i = .int .i64 k ∧ DP.get fs name = DP.get (fs.drop k) name ∧ wr = (w.alloc (.cells #[.slice A n c, .int .i64 cap, .int .i64 left, .bool down] 24)).alloc (.cells #[.string { data := #[] }, .string { data := #[] }, .int .i64 0] 48)) (fun i _ => n - (intOf i).toNat)
  case atStart => exact ⟨0, by omega, rfl, rfl, rfl⟩
  case round =>
    obtain ⟨k, hk, rfl, hq, rfl⟩ := hrel
    have HQ := Lib.hid hq
    clear hq
    by_cases hlt : k < n
    · obtain ⟨f, hf⟩ := file_here HN.out hlt
      obtain ⟨b, off, rfl, hb, d0, d1, d2⟩ := file_at hs hf
      have HF := Lib.hid (get_step hf name)
      have hbw : b < w.heap.size := by omega
      obtain ⟨gn, gb, gs⟩ := f
      simp only at d0 d1 d2
      clear hf
      cases he : eqS gn name
      · have HM : Hid (DP.get fs name = DP.get (fs.drop (k + 1)) name) := by show _ = _; rw [HQ.out, HF.out]; simp only [he]; rfl
        have z1 : (gn.toList == name.toList) = false := he
        clear HQ HF he
        go_wp2
        go_roundw
        case rel => exact ⟨k + 1, by omega, by go_num, HM.out, trivial⟩
        case measure => simp [intOf]; omega
      · have HM : Hid (DP.get fs name = some ⟨gn, gb, gs⟩) := by show _ = _; rw [HQ.out, HF.out]; simp only [he]; rfl
        have z1 : (gn.toList == name.toList) = true := he
        obtain ⟨rfl, rfl, rfl, rfl⟩ : th = true ∧ gn = fn ∧ gb = fb ∧ gs = s := by
          rcases HG.out with ⟨h1, h2⟩ | ⟨_, h2, _⟩
          · rw [HM.out] at h2
            injection h2 with h2
            injection h2 with e1 e2 e3
            exact ⟨h1, e1, e2, e3⟩
          · rw [HM.out] at h2; cases h2
        clear HQ HF he HM
        go_wp2
        refine bodyPost_ret (v := .tuple #[.agg #[.string gn, .string gb, .int .i64 gs], .bool true]) (by simp [results, Tryz.results33, go_sem]) rfl ⟨rfl, ?_⟩
        first
          | exact bel2 w _ _ _ _
          | (repeat (first | with_reducible exact hbs | refine Below.setCell ?_ (by simp) _))
    · obtain ⟨rfl, rfl, rfl, rfl⟩ : th = false ∧ fn = { data := #[] } ∧ fb = { data := #[] } ∧ s = 0 := by
        have h0 : DP.get fs name = none := by rw [HQ.out, List.drop_of_length_le (by have := HN.out; omega)]; rfl
        rcases HG.out with ⟨_, h2⟩ | ⟨h1, _, h3⟩
        · rw [h0] at h2; cases h2
        · exact ⟨h1, h3⟩
      clear HQ
      go_wp2
      refine bodyPost_ret (v := .tuple #[.agg #[.string { data := #[] }, .string { data := #[] }, .int .i64 0], .bool false]) (by simp [results, Tryz.results33, go_sem]) rfl ⟨rfl, ?_⟩
      first
        | exact bel2 w _ _ _ _
        | (repeat (first | with_reducible exact hbs | refine Below.setCell ?_ (by simp) _))

/-! ### Same -/
theorem sameF_ways (f g : Fl) : (sameF f g = true ∧ f = g) ∨ (sameF f g = false ∧ ((f.n.toList == g.n.toList) = false ∨ ((f.n.toList == g.n.toList) = true ∧ (f.b.toList == g.b.toList) = false) ∨ ((f.n.toList == g.n.toList) = true ∧ (f.b.toList == g.b.toList) = true ∧ (f.s == g.s) = false))) := by
  obtain ⟨a, b, s⟩ := f
  obtain ⟨c, d, x⟩ := g
  unfold sameF
  simp only
  cases h1 : eqS a c
  · exact .inr ⟨by simp, .inl h1⟩
  · cases h2 : eqS b d
    · exact .inr ⟨by simp, .inr (.inl ⟨h1, h2⟩)⟩
    · by_cases h3 : s = x
      · refine .inl ⟨by simp [h3], ?_⟩
        rw [eqS_iff.1 h1, eqS_iff.1 h2, h3]
      · exact .inr ⟨by simp [h3], .inr (.inr ⟨h1, h2, by rw [beq_eq_false_iff_ne]; exact h3⟩)⟩
set_option maxRecDepth 100000 in
set_option maxHeartbeats 1000000 in
theorem ref_same_any (A1 A2 : Option Addr) (n1 n2 c1 c2 B : Nat) (fs gs : List Fl) (cap cap' left left' : Int) (down down' : Bool) (b : Bool) (w : World) (h1 : fs.length = n1) (h2 : gs.length = n2) (hs1 : Seen w B A1 (fcells fs)) (hs2 : Seen w B A2 (fcells gs)) (hB : B ≤ w.heap.size) (hm1 : n1 ≤ 100) (hm2 : n2 ≤ 100) (hr : same ⟨fs, cap, left, down⟩ ⟨gs, cap', left', down'⟩ = b) :
    Calls Tryz.prog 10 #[.agg #[.slice A1 n1 c1, .int .i64 cap, .int .i64 left, .bool down], .agg #[.slice A2 n2 c2, .int .i64 cap', .int .i64 left', .bool down']] w fun e w' => e = .returned (.bool b) ∧ Below w.heap.size w w' := by
  have H1 := Lib.hid h1
  have H2 := Lib.hid h2
  have HB := Lib.hid hr
  clear h1 h2 hr
  have hvs := new2 w #[.slice A1 n1 c1, .int .i64 cap, .int .i64 left, .bool down] #[.slice A2 n2 c2, .int .i64 cap', .int .i64 left', .bool down'] 24 24
  have hb2 := bel2 w #[.slice A1 n1 c1, .int .i64 cap, .int .i64 left, .bool down] #[.slice A2 n2 c2, .int .i64 cap', .int .i64 left', .bool down'] 24 24
  by_cases e1 : ¬ cap = cap'
  · obtain rfl : b = false := by rw [← HB.out]; unfold same; simp [e1]
    have y : (cap != cap') = true := by simp [e1]
    clear HB
    go_enter Tryz.func10, Tryz.ntmps10
    go_wp2
    go_ret
    exact ⟨rfl, hb2⟩
  obtain rfl := Decidable.not_not.1 e1
  clear e1
  by_cases e2 : ¬ left = left'
  · obtain rfl : b = false := by rw [← HB.out]; unfold same; simp [e2]
    have y : (left != left') = true := by simp [e2]
    clear HB
    go_enter Tryz.func10, Tryz.ntmps10
    go_wp2
    go_ret
    exact ⟨rfl, hb2⟩
  obtain rfl := Decidable.not_not.1 e2
  clear e2
  by_cases e3 : ¬ down = down'
  · obtain rfl : b = false := by rw [← HB.out]; unfold same; simp [e3]
    have y : (down != down') = true := by simp [e3]
    clear HB
    go_enter Tryz.func10, Tryz.ntmps10
    go_wp2
    go_ret
    exact ⟨rfl, hb2⟩
  obtain rfl := Decidable.not_not.1 e3
  clear e3
  have HX : Hid (sameFs fs gs = b) := by
    show _ = _
    rw [← HB.out]
    unfold same
    simp
  clear HB
  by_cases hne : n1 = n2
  · subst hne
    have HR := HX
    clear HX
    have y0 : ((n1 : Int) == (n1 : Int)) = true := by simp
    obtain ⟨W2, hW2⟩ : ∃ W2, W2 = (w.alloc (.cells #[.slice A1 n1 c1, .int .i64 cap, .int .i64 left, .bool down] 24)).alloc (.cells #[.slice A2 n1 c2, .int .i64 cap, .int .i64 left, .bool down] 24) := ⟨_, rfl⟩
    rw [← hW2] at hvs hb2
    have hv1 := hvs.1
    have hv2 := hvs.2
    have hl1 := hv1.lt
    have hl2 := hv2.lt
    have HW := Lib.hid hW2
    clear hvs hW2
    go_enter Tryz.func10, Tryz.ntmps10
    go_wp2
    rw [← HW.out]
    go_loopw [5] (fun i wr => ∃ (k : Nat), k ≤ n1 ∧ i = .int .i64 k ∧ sameFs fs gs = sameFs (fs.drop k) (gs.drop k) ∧ Below W2.heap.size W2 wr) (fun i _ => n1 - (intOf i).toNat)
    case atStart => exact ⟨0, by omega, rfl, rfl, Below.refl _ _⟩
    case round =>
      obtain ⟨k, hk, rfl, hq, hkw⟩ := hrel
      have hbw : Below w.heap.size w wr := hb2.trans (hkw.mono hb2.size)
      have HQ := Lib.hid hq
      clear hq
      by_cases hlt : k < n1
      · obtain ⟨f, hf⟩ := file_here H1.out hlt
        obtain ⟨g, hg⟩ := file_here H2.out hlt
        obtain ⟨b1, o1, rfl, hb1, p0, p1, p2⟩ := file_at (hs1.below (hbw.mono hB)) hf
        obtain ⟨b2, o2, rfl, hb2, q0, q1, q2⟩ := file_at (hs2.below (hbw.mono hB)) hg
        have hw1 : b1 < wr.heap.size := by have := hbw.size; omega
        have hw2 : b2 < wr.heap.size := by have := hbw.size; omega
        have HS := Lib.hid (sameFs_step hf hg)
        have hways := sameF_ways f g
        have hgd : Tryz.prog.eqGuardType Tryz.prog.depth 48 = false := by kernel_rfl
        have hbz := hbw.size
        clear hf hg
        rcases hways with ⟨e, rfl⟩ | ⟨e, hw⟩
        · have HM : Hid (sameFs fs gs = sameFs (fs.drop (k + 1)) (gs.drop (k + 1))) := by show _ = _; rw [HQ.out, HS.out, e, Bool.true_and]
          clear HQ HS e
          obtain ⟨fn, fb, s⟩ := f
          simp only at p0 p1 p2 q0 q1 q2
          obtain ⟨d0, d1, d2, d3, f1⟩ := (hv1.below hkw hl1).cells4
          obtain ⟨e0, e1, e2, e3, f2⟩ := (hv2.below hkw hl2).cells4
          have l1 := (hv1.below hkw hl1).lt
          have l2 := (hv2.below hkw hl2).lt
          go_wp2
          go_region_with fail
          all_goals
            go_wp2
            go_round
            case rel => first | exact ⟨k + 1, by omega, by go_num, HM.out, hkw⟩ | exact ⟨k + 1, by omega, by go_num, HM.out, hkw.drew⟩ | exact ⟨k + 1, by omega, by go_num, HM.out, hkw.drew.drew⟩
            case measure => simp [intOf]; omega
        · obtain rfl : b = false := by rw [← HR.out, HQ.out, HS.out, e, Bool.false_and]
          clear HQ HS e
          obtain ⟨fn, fb, s⟩ := f
          obtain ⟨gn, gb, x⟩ := g
          simp only at p0 p1 p2 q0 q1 q2 hw
          obtain ⟨d0, d1, d2, d3, f1⟩ := (hv1.below hkw hl1).cells4
          obtain ⟨e0, e1, e2, e3, f2⟩ := (hv2.below hkw hl2).cells4
          have l1 := (hv1.below hkw hl1).lt
          have l2 := (hv2.below hkw hl2).lt
          rcases hw with z1 | ⟨z1, z2⟩ | ⟨z1, z2, z3⟩
          all_goals
            go_wp2
            go_region_with fail
            all_goals
              go_wp2
              go_ret
              first | exact ⟨rfl, hbw⟩ | exact ⟨rfl, hbw.drew⟩ | exact ⟨rfl, hbw.drew.drew⟩
      · obtain rfl : b = true := by rw [← HR.out, HQ.out, sameFs_end (by have := H1.out; omega) (by have := H2.out; omega)]
        clear HQ
        obtain ⟨d0, d1, d2, d3, f1⟩ := (hv1.below hkw hl1).cells4
        obtain ⟨e0, e1, e2, e3, f2⟩ := (hv2.below hkw hl2).cells4
        have l1 := (hv1.below hkw hl1).lt
        have l2 := (hv2.below hkw hl2).lt
        go_wp2
        go_ret
        exact ⟨rfl, hbw⟩
  · obtain rfl : b = false := by rw [← HX.out, sameFs_other (by rw [H1.out, H2.out]; exact hne)]
    have y0 : ((n1 : Int) != (n2 : Int)) = true := by simp; omega
    clear HX
    go_enter Tryz.func10, Tryz.ntmps10
    go_wp2
    go_ret
    exact ⟨rfl, hb2⟩
end Go.Proofs.YtpppeadmhfggkaaGreatDoor
