/-
  The contract of the reference's with: what it returns and what it does to memory. Conditions: those that each theorem names.
-/
import Derived.Test.YtpppeadmhfggkaaGreatDoorDskWith
import Derived.Test.YtpppeadmhfggkaaGreatDoorDskAttB
import Derived.Test.YtpppeadmhfggkaaGreatDoorFilG1
namespace Go.Proofs.YtpppeadmhfggkaaGreatDoor
open Go.RowKit DP

/-- What with has on its way: what is out so far, the file in its variable, the files. -/
structure WithSt (B : Nat) (A : Option Addr) (fs : List Fl) (fn fb : ByteArray) (s : Int) (o : List Fl) (v : Value) (m : Nat) (w W : World) : Prop where
  own : W.ownsRow (w.heap.size + 1) 48 3 v m (fcells o)
  f : Var W w.heap.size 48 #[.string fn, .string fb, .int .i64 s]
  s : Seen W B A (fcells fs)
  b : Below w.heap.size w W
  z : w.heap.size + 1 ≤ W.heap.size
section
variable {B : Nat} {A : Option Addr} {fs : List Fl} {fn fb : ByteArray} {s : Int} {o o' : List Fl} {v v' : Value} {m m' : Nat} {w W W' : World}
theorem WithSt.next (h : WithSt B A fs fn fb s o v m w W) (hB : B ≤ w.heap.size) (k : Below W.heap.size W W') : WithSt B A fs fn fb s o v m w W' :=
  ⟨own_below h.own k, h.f.below k h.f.lt, h.s.below (k.mono (Nat.le_trans hB h.b.size)), h.b.trans (k.mono h.b.size), Nat.le_trans h.z k.size⟩
theorem WithSt.app (h : WithSt B A fs fn fb s o v m w W) (hB : B ≤ w.heap.size) {ob : Obj} (hown : W'.ownsRow (w.heap.size + 1) 48 3 v' m' (fcells o')) (hb : Below (w.heap.size + 1) (W.alloc ob) W') : WithSt B A fs fn fb s o' v' m' w W' :=
  have h1 := h.next hB ((Below.refl _ W).alloc (Nat.le_refl _) ob)
  ⟨hown, h1.f.below hb (by omega), h1.s.below (hb.mono (by omega)), h1.b.trans (hb.mono (by omega)), Nat.le_trans h1.z hb.size⟩
end
theorem file_cells {w : World} {B b off : Nat} {fs : List Fl} {k : Nat} {f : Fl} (h : Seen w B (some ⟨b, off, none⟩) (fcells fs)) (hk : fs[k]? = some f) :
    b < B ∧ w.cell? ⟨b, off + k * 3, none⟩ = some (.string f.n) ∧ w.cell? ⟨b, off + k * 3 + 1, none⟩ = some (.string f.b) ∧ w.cell? ⟨b, off + k * 3 + 2, none⟩ = some (.int .i64 f.s) := by
  obtain ⟨b', off', hA, hb, h0⟩ := file_at h hk
  injection hA with hA
  injection hA with e1 e2 _
  subst e1 e2
  exact ⟨hb, h0⟩
theorem wstep_is (f : Fl) (o : List Fl) (d : Bool) (x : Fl) : wstep f (o, d) x = ((if !ltS x.n f.n && !d then o ++ opt f else o) ++ (if eqS x.n f.n then [] else [x]), d || !ltS x.n f.n) := rfl
theorem opt_some {f : Fl} (h : 0 < f.b.size) : opt f = [f] := by unfold opt; rw [if_neg (by omega)]
theorem opt_none {f : Fl} (h : f.b.size = 0) : opt f = [] := by unfold opt; rw [if_pos h]

set_option maxRecDepth 100000 in
set_option maxHeartbeats 8000000 in
theorem ref_with_any (A : Option Addr) (n c B : Nat) (fs : List Fl) (fn fb : ByteArray) (s : Int) (w : World) (hn : fs.length = n) (hs : Seen w B A (fcells fs)) (hB : B ≤ w.heap.size) (h100 : n ≤ 100) (hfb : fb.size ≤ 1000000) (hpw : fs.Pairwise (fun a b => ltS a.n b.n = true)) :
    Calls Tryz.prog 40 #[.slice A n c, .agg #[.string fn, .string fb, .int .i64 s]] w (FilesPost (put fs ⟨fn, fb, s⟩) w) := by
  have HN := Lib.hid hn
  have HPUT := Lib.hid (wfold_put (f := ⟨fn, fb, s⟩) hpw)
  clear hn hpw
  obtain ⟨W0, hW0⟩ : ∃ W0, W0 = w.alloc (.cells #[.string fn, .string fb, .int .i64 s] 48) := ⟨_, rfl⟩
  have hb0 : Below w.heap.size w W0 := by rw [hW0]; exact bel1 w _ _
  have st0 : WithSt B A fs fn fb s [] (.slice none 0 0) 0 w W0 := by
    refine ⟨World.ownsRow_nil _ _ _ _, by rw [hW0]; exact new1 w _ _, hs.below (hb0.mono hB), hb0, by rw [hW0]; simp⟩
  have HW := Lib.hid hW0
  clear hW0 hb0
  go_enter Tryz.func40, Tryz.ntmps40
  go_wp2
  rw [← HW.out]
  go_loopw [5, 6, 7] (fun v d i wr => ∃ (k m : Nat) (o : List Fl) (dn : Bool) (A1 : Option Addr) (c1 : Nat), k ≤ n ∧ i = .int .i64 k ∧ d = .bool dn ∧ v = .slice A1 m c1 ∧ wfold ⟨fn, fb, s⟩ (fs.take k) = (o, dn) ∧ o.length = m ∧ WithSt B A fs fn fb s o (.slice A1 m c1) m w wr) (fun _ _ i _ => n - (intOf i).toNat)
  case atStart => exact ⟨0, 0, [], false, none, 0, by omega, rfl, rfl, rfl, rfl, rfl, st0⟩
  case round =>
    obtain ⟨k, m, o, dn, A1, c1, hk, rfl, rfl, rfl, hwf, hm, st⟩ := hrel
    have hm2 : m ≤ 2 * k := by
      have := wfold_length ⟨fn, fb, s⟩ fs k
      rw [hwf] at this
      rw [← hm]; exact this
    have HWF := Lib.hid hwf
    have HM := Lib.hid hm
    clear hwf hm st0
    have hfc : (fcells [⟨fn, fb, s⟩]).length = 1 * 3 := rfl
    by_cases hlt : k < n
    · obtain ⟨x, hx⟩ := file_here HN.out hlt
      have HS := Lib.hid (wfold_step (f := ⟨fn, fb, s⟩) hx)
      have HX := Lib.hid hx
      obtain ⟨gn, gb, gs⟩ := x
      clear hx
      have he : ltS gn fn = true → eqS gn fn = false := fun h => eqS_not.2 (ltS_ne h)
      obtain ⟨bx, ox, hAx, _⟩ := file_at st.s HX.out
      subst hAx
      cases hx : ltS gn fn
      · cases dn
        · by_cases hsz : 0 < fb.size
          · cases hq : eqS gn fn
            · have HR : Hid (wfold ⟨fn, fb, s⟩ (fs.take (k + 1)) = (((o ++ [⟨fn, fb, s⟩]) ++ [⟨gn, gb, gs⟩]), true)) := by
                show _ = _
                rw [HS.out, HWF.out, wstep_is]
                simp [hx, hq, opt_some (f := ⟨fn, fb, s⟩) hsz]
              clear HS HWF
              have z1 : Op.bytesLess gn.toList fn.toList = false := hx
              have z2 : (gn.toList == fn.toList) = false := hq
              have z3 : decide ((0 : Int) < (fb.size : Int)) = true := decide_eq_true (by omega)
              clear hx hq he
              go_wp2_with fail
              obtain ⟨hbx, p0, p1, p2⟩ := file_cells st.s HX.out
              simp only at p0 p1 p2
              have hbw : bx < wr.heap.size := by have := st.b.size; omega
              have hx0 := fun (x : After wr) => (x.below.cell (p := ⟨bx, ox + k * 3, none⟩) hbw).trans p0
              have hy0 := fun (x : After wr) => (Var.cells3 (st.f.below x.below st.f.lt)).1
              refine wp_region_after (by kernel_rfl) (by kernel_rfl) ?_
              repeat (go_big_quiet_step (fail))
              refine wpQuiet_nil ?_
              rintro _ ⟨x, rfl⟩
              obtain ⟨W6, hW2⟩ : ∃ W6, W6 = x.val := ⟨_, rfl⟩
              have st6 := st.next hB x.below
              rw [← hW2] at st6 ⊢
              clear hx0 hy0 hW2 x p0 p1 p2 hbw
              obtain ⟨d0, d1, d2, f1⟩ := st6.f.cells3
              have hl1 := st6.f.lt
              go_wp2_with (at_builtin; refine wpList_append_own3 rfl (.tmp 30) (.tmp 32) rfl (base := w.heap.size + 1) (B2 := W6.heap.size + 1) (A2 := some ⟨W6.heap.size, 0, none⟩) (n := m) (m := 1) (c := 1) (xs := fcells o) (news := fcells [⟨fn, fb, s⟩]) (v := .slice A1 (m) c1) rfl rfl ?g1 rfl (fcells_one _) ?g2 ?g3 ?g4 ?_)
              case g1 => exact (st6.next hB ((Below.refl _ W6).alloc (Nat.le_refl _) _)).own
              case g2 => exact Seen.one W6 ⟨fn, fb, s⟩ _
              case g3 => have := st6.z; simp; omega
              case g4 => omega
              intro A7 c7 W7 hown hb2
              rw [← fcells_append] at hown
              have st7 := st6.app hB hown hb2
              clear hown hb2
              clear d0 d1 d2 f1 hl1
              go_wp2_with fail
              obtain ⟨hbx, p0, p1, p2⟩ := file_cells st7.s HX.out
              simp only at p0 p1 p2
              have hbw : bx < W7.heap.size := by have := st7.b.size; omega
              have hx0 := fun (x : After W7) => (x.below.cell (p := ⟨bx, ox + k * 3, none⟩) hbw).trans p0
              have hy0 := fun (x : After W7) => (Var.cells3 (st7.f.below x.below st7.f.lt)).1
              refine wp_region_after (by kernel_rfl) (by kernel_rfl) ?_
              repeat (go_big_quiet_step (fail))
              refine wpQuiet_nil ?_
              rintro _ ⟨x, rfl⟩
              obtain ⟨W8, hW2⟩ : ∃ W8, W8 = x.val := ⟨_, rfl⟩
              have st8 := st7.next hB x.below
              rw [← hW2] at st8 ⊢
              clear hx0 hy0 hW2 x p0 p1 p2 hbw
              obtain ⟨hbx, p0, p1, p2⟩ := file_cells st8.s HX.out
              simp only at p0 p1 p2
              have hbw : bx < W8.heap.size := by have := st8.b.size; omega
              go_wp2_with (at_builtin; refine wpList_append_own3 rfl (.tmp 42) (.tmp 47) rfl (base := w.heap.size + 1) (B2 := W8.heap.size + 1) (A2 := some ⟨W8.heap.size, 0, none⟩) (n := m + 1) (m := 1) (c := 1) (xs := fcells (o ++ [⟨fn, fb, s⟩])) (news := fcells [⟨gn, gb, gs⟩]) (v := .slice A7 (m + 1) c7) rfl rfl ?g1 rfl (fcells_one _) ?g2 ?g3 ?g4 ?_)
              case g1 => exact (st8.next hB ((Below.refl _ W8).alloc (Nat.le_refl _) _)).own
              case g2 => exact Seen.one W8 ⟨gn, gb, gs⟩ _
              case g3 => have := st8.z; simp; omega
              case g4 => omega
              intro A9 c9 W9 hown hb2
              rw [← fcells_append] at hown
              have st9 := st8.app hB hown hb2
              clear hown hb2
              go_wp2
              go_round
              case rel => exact ⟨k + 1, m + 1 + 1, ((o ++ [⟨fn, fb, s⟩]) ++ [⟨gn, gb, gs⟩]), true, A9, c9, by omega, by go_num, rfl, rfl, HR.out, by simp [HM.out], st9⟩
              case measure => simp [intOf]; omega
            · have HR : Hid (wfold ⟨fn, fb, s⟩ (fs.take (k + 1)) = ((o ++ [⟨fn, fb, s⟩]), true)) := by
                show _ = _
                rw [HS.out, HWF.out, wstep_is]
                simp [hx, hq, opt_some (f := ⟨fn, fb, s⟩) hsz]
              clear HS HWF
              have z1 : Op.bytesLess gn.toList fn.toList = false := hx
              have z2 : (gn.toList == fn.toList) = true := hq
              have z3 : decide ((0 : Int) < (fb.size : Int)) = true := decide_eq_true (by omega)
              clear hx hq he
              go_wp2_with fail
              obtain ⟨hbx, p0, p1, p2⟩ := file_cells st.s HX.out
              simp only at p0 p1 p2
              have hbw : bx < wr.heap.size := by have := st.b.size; omega
              have hx0 := fun (x : After wr) => (x.below.cell (p := ⟨bx, ox + k * 3, none⟩) hbw).trans p0
              have hy0 := fun (x : After wr) => (Var.cells3 (st.f.below x.below st.f.lt)).1
              refine wp_region_after (by kernel_rfl) (by kernel_rfl) ?_
              repeat (go_big_quiet_step (fail))
              refine wpQuiet_nil ?_
              rintro _ ⟨x, rfl⟩
              obtain ⟨W6, hW2⟩ : ∃ W6, W6 = x.val := ⟨_, rfl⟩
              have st6 := st.next hB x.below
              rw [← hW2] at st6 ⊢
              clear hx0 hy0 hW2 x p0 p1 p2 hbw
              obtain ⟨d0, d1, d2, f1⟩ := st6.f.cells3
              have hl1 := st6.f.lt
              go_wp2_with (at_builtin; refine wpList_append_own3 rfl (.tmp 30) (.tmp 32) rfl (base := w.heap.size + 1) (B2 := W6.heap.size + 1) (A2 := some ⟨W6.heap.size, 0, none⟩) (n := m) (m := 1) (c := 1) (xs := fcells o) (news := fcells [⟨fn, fb, s⟩]) (v := .slice A1 (m) c1) rfl rfl ?g1 rfl (fcells_one _) ?g2 ?g3 ?g4 ?_)
              case g1 => exact (st6.next hB ((Below.refl _ W6).alloc (Nat.le_refl _) _)).own
              case g2 => exact Seen.one W6 ⟨fn, fb, s⟩ _
              case g3 => have := st6.z; simp; omega
              case g4 => omega
              intro A7 c7 W7 hown hb2
              rw [← fcells_append] at hown
              have st7 := st6.app hB hown hb2
              clear hown hb2
              clear d0 d1 d2 f1 hl1
              go_wp2_with fail
              obtain ⟨hbx, p0, p1, p2⟩ := file_cells st7.s HX.out
              simp only at p0 p1 p2
              have hbw : bx < W7.heap.size := by have := st7.b.size; omega
              have hx0 := fun (x : After W7) => (x.below.cell (p := ⟨bx, ox + k * 3, none⟩) hbw).trans p0
              have hy0 := fun (x : After W7) => (Var.cells3 (st7.f.below x.below st7.f.lt)).1
              refine wp_region_after (by kernel_rfl) (by kernel_rfl) ?_
              repeat (go_big_quiet_step (fail))
              refine wpQuiet_nil ?_
              rintro _ ⟨x, rfl⟩
              obtain ⟨W8, hW2⟩ : ∃ W8, W8 = x.val := ⟨_, rfl⟩
              have st8 := st7.next hB x.below
              rw [← hW2] at st8 ⊢
              clear hx0 hy0 hW2 x p0 p1 p2 hbw
              go_wp2
              go_round
              case rel => exact ⟨k + 1, m + 1, (o ++ [⟨fn, fb, s⟩]), true, A7, c7, by omega, by go_num, rfl, rfl, HR.out, by simp [HM.out], st8⟩
              case measure => simp [intOf]; omega
          · cases hq : eqS gn fn
            · have HR : Hid (wfold ⟨fn, fb, s⟩ (fs.take (k + 1)) = ((o ++ [⟨gn, gb, gs⟩]), true)) := by
                show _ = _
                rw [HS.out, HWF.out, wstep_is]
                simp [hx, hq, opt_none (f := ⟨fn, fb, s⟩) (show fb.size = 0 by omega)]
              clear HS HWF
              have z1 : Op.bytesLess gn.toList fn.toList = false := hx
              have z2 : (gn.toList == fn.toList) = false := hq
              have z3 : decide ((0 : Int) < (fb.size : Int)) = false := bool_dec _ (by omega)
              clear hx hq he
              go_wp2_with fail
              obtain ⟨hbx, p0, p1, p2⟩ := file_cells st.s HX.out
              simp only at p0 p1 p2
              have hbw : bx < wr.heap.size := by have := st.b.size; omega
              have hx0 := fun (x : After wr) => (x.below.cell (p := ⟨bx, ox + k * 3, none⟩) hbw).trans p0
              have hy0 := fun (x : After wr) => (Var.cells3 (st.f.below x.below st.f.lt)).1
              refine wp_region_after (by kernel_rfl) (by kernel_rfl) ?_
              repeat (go_big_quiet_step (fail))
              refine wpQuiet_nil ?_
              rintro _ ⟨x, rfl⟩
              obtain ⟨W6, hW2⟩ : ∃ W6, W6 = x.val := ⟨_, rfl⟩
              have st6 := st.next hB x.below
              rw [← hW2] at st6 ⊢
              clear hx0 hy0 hW2 x p0 p1 p2 hbw
              obtain ⟨d0, d1, d2, f1⟩ := st6.f.cells3
              have hl1 := st6.f.lt
              go_wp2_with fail
              obtain ⟨hbx, p0, p1, p2⟩ := file_cells st6.s HX.out
              simp only at p0 p1 p2
              have hbw : bx < W6.heap.size := by have := st6.b.size; omega
              have hx0 := fun (x : After W6) => (x.below.cell (p := ⟨bx, ox + k * 3, none⟩) hbw).trans p0
              have hy0 := fun (x : After W6) => (Var.cells3 (st6.f.below x.below st6.f.lt)).1
              refine wp_region_after (by kernel_rfl) (by kernel_rfl) ?_
              repeat (go_big_quiet_step (fail))
              refine wpQuiet_nil ?_
              rintro _ ⟨x, rfl⟩
              obtain ⟨W8, hW2⟩ : ∃ W8, W8 = x.val := ⟨_, rfl⟩
              have st8 := st6.next hB x.below
              rw [← hW2] at st8 ⊢
              clear hx0 hy0 hW2 x p0 p1 p2 hbw
              obtain ⟨hbx, p0, p1, p2⟩ := file_cells st8.s HX.out
              simp only at p0 p1 p2
              have hbw : bx < W8.heap.size := by have := st8.b.size; omega
              go_wp2_with (at_builtin; refine wpList_append_own3 rfl (.tmp 42) (.tmp 47) rfl (base := w.heap.size + 1) (B2 := W8.heap.size + 1) (A2 := some ⟨W8.heap.size, 0, none⟩) (n := m) (m := 1) (c := 1) (xs := fcells o) (news := fcells [⟨gn, gb, gs⟩]) (v := .slice A1 (m) c1) rfl rfl ?g1 rfl (fcells_one _) ?g2 ?g3 ?g4 ?_)
              case g1 => exact (st8.next hB ((Below.refl _ W8).alloc (Nat.le_refl _) _)).own
              case g2 => exact Seen.one W8 ⟨gn, gb, gs⟩ _
              case g3 => have := st8.z; simp; omega
              case g4 => omega
              intro A9 c9 W9 hown hb2
              rw [← fcells_append] at hown
              have st9 := st8.app hB hown hb2
              clear hown hb2
              go_wp2
              go_round
              case rel => exact ⟨k + 1, m + 1, (o ++ [⟨gn, gb, gs⟩]), true, A9, c9, by omega, by go_num, rfl, rfl, HR.out, by simp [HM.out], st9⟩
              case measure => simp [intOf]; omega
            · have HR : Hid (wfold ⟨fn, fb, s⟩ (fs.take (k + 1)) = (o, true)) := by
                show _ = _
                rw [HS.out, HWF.out, wstep_is]
                simp [hx, hq, opt_none (f := ⟨fn, fb, s⟩) (show fb.size = 0 by omega)]
              clear HS HWF
              have z1 : Op.bytesLess gn.toList fn.toList = false := hx
              have z2 : (gn.toList == fn.toList) = true := hq
              have z3 : decide ((0 : Int) < (fb.size : Int)) = false := bool_dec _ (by omega)
              clear hx hq he
              go_wp2_with fail
              obtain ⟨hbx, p0, p1, p2⟩ := file_cells st.s HX.out
              simp only at p0 p1 p2
              have hbw : bx < wr.heap.size := by have := st.b.size; omega
              have hx0 := fun (x : After wr) => (x.below.cell (p := ⟨bx, ox + k * 3, none⟩) hbw).trans p0
              have hy0 := fun (x : After wr) => (Var.cells3 (st.f.below x.below st.f.lt)).1
              refine wp_region_after (by kernel_rfl) (by kernel_rfl) ?_
              repeat (go_big_quiet_step (fail))
              refine wpQuiet_nil ?_
              rintro _ ⟨x, rfl⟩
              obtain ⟨W6, hW2⟩ : ∃ W6, W6 = x.val := ⟨_, rfl⟩
              have st6 := st.next hB x.below
              rw [← hW2] at st6 ⊢
              clear hx0 hy0 hW2 x p0 p1 p2 hbw
              obtain ⟨d0, d1, d2, f1⟩ := st6.f.cells3
              have hl1 := st6.f.lt
              go_wp2_with fail
              obtain ⟨hbx, p0, p1, p2⟩ := file_cells st6.s HX.out
              simp only at p0 p1 p2
              have hbw : bx < W6.heap.size := by have := st6.b.size; omega
              have hx0 := fun (x : After W6) => (x.below.cell (p := ⟨bx, ox + k * 3, none⟩) hbw).trans p0
              have hy0 := fun (x : After W6) => (Var.cells3 (st6.f.below x.below st6.f.lt)).1
              refine wp_region_after (by kernel_rfl) (by kernel_rfl) ?_
              repeat (go_big_quiet_step (fail))
              refine wpQuiet_nil ?_
              rintro _ ⟨x, rfl⟩
              obtain ⟨W8, hW2⟩ : ∃ W8, W8 = x.val := ⟨_, rfl⟩
              have st8 := st6.next hB x.below
              rw [← hW2] at st8 ⊢
              clear hx0 hy0 hW2 x p0 p1 p2 hbw
              go_wp2
              go_round
              case rel => exact ⟨k + 1, m, o, true, A1, c1, by omega, by go_num, rfl, rfl, HR.out, by simp [HM.out], st8⟩
              case measure => simp [intOf]; omega
        · cases hq : eqS gn fn
          · have HR : Hid (wfold ⟨fn, fb, s⟩ (fs.take (k + 1)) = ((o ++ [⟨gn, gb, gs⟩]), true)) := by
              show _ = _
              rw [HS.out, HWF.out, wstep_is]
              simp [hx, hq]
            clear HS HWF
            have z1 : Op.bytesLess gn.toList fn.toList = false := hx
            have z2 : (gn.toList == fn.toList) = false := hq
            clear hx hq he
            go_wp2_with fail
            obtain ⟨hbx, p0, p1, p2⟩ := file_cells st.s HX.out
            simp only at p0 p1 p2
            have hbw : bx < wr.heap.size := by have := st.b.size; omega
            have hx0 := fun (x : After wr) => (x.below.cell (p := ⟨bx, ox + k * 3, none⟩) hbw).trans p0
            have hy0 := fun (x : After wr) => (Var.cells3 (st.f.below x.below st.f.lt)).1
            refine wp_region_after (by kernel_rfl) (by kernel_rfl) ?_
            repeat (go_big_quiet_step (fail))
            refine wpQuiet_nil ?_
            rintro _ ⟨x, rfl⟩
            obtain ⟨W6, hW2⟩ : ∃ W6, W6 = x.val := ⟨_, rfl⟩
            have st6 := st.next hB x.below
            rw [← hW2] at st6 ⊢
            clear hx0 hy0 hW2 x p0 p1 p2 hbw
            go_wp2_with fail
            obtain ⟨hbx, p0, p1, p2⟩ := file_cells st6.s HX.out
            simp only at p0 p1 p2
            have hbw : bx < W6.heap.size := by have := st6.b.size; omega
            have hx0 := fun (x : After W6) => (x.below.cell (p := ⟨bx, ox + k * 3, none⟩) hbw).trans p0
            have hy0 := fun (x : After W6) => (Var.cells3 (st6.f.below x.below st6.f.lt)).1
            refine wp_region_after (by kernel_rfl) (by kernel_rfl) ?_
            repeat (go_big_quiet_step (fail))
            refine wpQuiet_nil ?_
            rintro _ ⟨x, rfl⟩
            obtain ⟨W8, hW2⟩ : ∃ W8, W8 = x.val := ⟨_, rfl⟩
            have st8 := st6.next hB x.below
            rw [← hW2] at st8 ⊢
            clear hx0 hy0 hW2 x p0 p1 p2 hbw
            obtain ⟨hbx, p0, p1, p2⟩ := file_cells st8.s HX.out
            simp only at p0 p1 p2
            have hbw : bx < W8.heap.size := by have := st8.b.size; omega
            go_wp2_with (at_builtin; refine wpList_append_own3 rfl (.tmp 42) (.tmp 47) rfl (base := w.heap.size + 1) (B2 := W8.heap.size + 1) (A2 := some ⟨W8.heap.size, 0, none⟩) (n := m) (m := 1) (c := 1) (xs := fcells o) (news := fcells [⟨gn, gb, gs⟩]) (v := .slice A1 (m) c1) rfl rfl ?g1 rfl (fcells_one _) ?g2 ?g3 ?g4 ?_)
            case g1 => exact (st8.next hB ((Below.refl _ W8).alloc (Nat.le_refl _) _)).own
            case g2 => exact Seen.one W8 ⟨gn, gb, gs⟩ _
            case g3 => have := st8.z; simp; omega
            case g4 => omega
            intro A9 c9 W9 hown hb2
            rw [← fcells_append] at hown
            have st9 := st8.app hB hown hb2
            clear hown hb2
            go_wp2
            go_round
            case rel => exact ⟨k + 1, m + 1, (o ++ [⟨gn, gb, gs⟩]), true, A9, c9, by omega, by go_num, rfl, rfl, HR.out, by simp [HM.out], st9⟩
            case measure => simp [intOf]; omega
          · have HR : Hid (wfold ⟨fn, fb, s⟩ (fs.take (k + 1)) = (o, true)) := by
              show _ = _
              rw [HS.out, HWF.out, wstep_is]
              simp [hx, hq]
            clear HS HWF
            have z1 : Op.bytesLess gn.toList fn.toList = false := hx
            have z2 : (gn.toList == fn.toList) = true := hq
            clear hx hq he
            go_wp2_with fail
            obtain ⟨hbx, p0, p1, p2⟩ := file_cells st.s HX.out
            simp only at p0 p1 p2
            have hbw : bx < wr.heap.size := by have := st.b.size; omega
            have hx0 := fun (x : After wr) => (x.below.cell (p := ⟨bx, ox + k * 3, none⟩) hbw).trans p0
            have hy0 := fun (x : After wr) => (Var.cells3 (st.f.below x.below st.f.lt)).1
            refine wp_region_after (by kernel_rfl) (by kernel_rfl) ?_
            repeat (go_big_quiet_step (fail))
            refine wpQuiet_nil ?_
            rintro _ ⟨x, rfl⟩
            obtain ⟨W6, hW2⟩ : ∃ W6, W6 = x.val := ⟨_, rfl⟩
            have st6 := st.next hB x.below
            rw [← hW2] at st6 ⊢
            clear hx0 hy0 hW2 x p0 p1 p2 hbw
            go_wp2_with fail
            obtain ⟨hbx, p0, p1, p2⟩ := file_cells st6.s HX.out
            simp only at p0 p1 p2
            have hbw : bx < W6.heap.size := by have := st6.b.size; omega
            have hx0 := fun (x : After W6) => (x.below.cell (p := ⟨bx, ox + k * 3, none⟩) hbw).trans p0
            have hy0 := fun (x : After W6) => (Var.cells3 (st6.f.below x.below st6.f.lt)).1
            refine wp_region_after (by kernel_rfl) (by kernel_rfl) ?_
            repeat (go_big_quiet_step (fail))
            refine wpQuiet_nil ?_
            rintro _ ⟨x, rfl⟩
            obtain ⟨W8, hW2⟩ : ∃ W8, W8 = x.val := ⟨_, rfl⟩
            have st8 := st6.next hB x.below
            rw [← hW2] at st8 ⊢
            clear hx0 hy0 hW2 x p0 p1 p2 hbw
            go_wp2
            go_round
            case rel => exact ⟨k + 1, m, o, true, A1, c1, by omega, by go_num, rfl, rfl, HR.out, by simp [HM.out], st8⟩
            case measure => simp [intOf]; omega
      · have hq := he hx
        have HR : Hid (wfold ⟨fn, fb, s⟩ (fs.take (k + 1)) = ((o ++ [⟨gn, gb, gs⟩]), dn)) := by
          show _ = _
          rw [HS.out, HWF.out, wstep_is]
          simp [hx, hq]
        clear HS HWF
        have z1 : Op.bytesLess gn.toList fn.toList = true := hx
        have z2 : (gn.toList == fn.toList) = false := hq
        clear hx hq he
        go_wp2_with fail
        obtain ⟨hbx, p0, p1, p2⟩ := file_cells st.s HX.out
        simp only at p0 p1 p2
        have hbw : bx < wr.heap.size := by have := st.b.size; omega
        have hx0 := fun (x : After wr) => (x.below.cell (p := ⟨bx, ox + k * 3, none⟩) hbw).trans p0
        have hy0 := fun (x : After wr) => (Var.cells3 (st.f.below x.below st.f.lt)).1
        refine wp_region_after (by kernel_rfl) (by kernel_rfl) ?_
        repeat (go_big_quiet_step (fail))
        refine wpQuiet_nil ?_
        rintro _ ⟨x, rfl⟩
        obtain ⟨W6, hW2⟩ : ∃ W6, W6 = x.val := ⟨_, rfl⟩
        have st6 := st.next hB x.below
        rw [← hW2] at st6 ⊢
        clear hx0 hy0 hW2 x p0 p1 p2 hbw
        go_wp2_with fail
        obtain ⟨hbx, p0, p1, p2⟩ := file_cells st6.s HX.out
        simp only at p0 p1 p2
        have hbw : bx < W6.heap.size := by have := st6.b.size; omega
        have hx0 := fun (x : After W6) => (x.below.cell (p := ⟨bx, ox + k * 3, none⟩) hbw).trans p0
        have hy0 := fun (x : After W6) => (Var.cells3 (st6.f.below x.below st6.f.lt)).1
        refine wp_region_after (by kernel_rfl) (by kernel_rfl) ?_
        repeat (go_big_quiet_step (fail))
        refine wpQuiet_nil ?_
        rintro _ ⟨x, rfl⟩
        obtain ⟨W8, hW2⟩ : ∃ W8, W8 = x.val := ⟨_, rfl⟩
        have st8 := st6.next hB x.below
        rw [← hW2] at st8 ⊢
        clear hx0 hy0 hW2 x p0 p1 p2 hbw
        obtain ⟨hbx, p0, p1, p2⟩ := file_cells st8.s HX.out
        simp only at p0 p1 p2
        have hbw : bx < W8.heap.size := by have := st8.b.size; omega
        go_wp2_with (at_builtin; refine wpList_append_own3 rfl (.tmp 42) (.tmp 47) rfl (base := w.heap.size + 1) (B2 := W8.heap.size + 1) (A2 := some ⟨W8.heap.size, 0, none⟩) (n := m) (m := 1) (c := 1) (xs := fcells o) (news := fcells [⟨gn, gb, gs⟩]) (v := .slice A1 (m) c1) rfl rfl ?g1 rfl (fcells_one _) ?g2 ?g3 ?g4 ?_)
        case g1 => exact (st8.next hB ((Below.refl _ W8).alloc (Nat.le_refl _) _)).own
        case g2 => exact Seen.one W8 ⟨gn, gb, gs⟩ _
        case g3 => have := st8.z; simp; omega
        case g4 => omega
        intro A9 c9 W9 hown hb2
        rw [← fcells_append] at hown
        have st9 := st8.app hB hown hb2
        clear hown hb2
        go_wp2
        go_round
        case rel => exact ⟨k + 1, m + 1, (o ++ [⟨gn, gb, gs⟩]), dn, A9, c9, by omega, by go_num, rfl, rfl, HR.out, by simp [HM.out], st9⟩
        case measure => simp [intOf]; omega
    · obtain rfl : k = n := by omega
      have HALL : Hid (wfold ⟨fn, fb, s⟩ fs = (o, dn)) := by
        show _ = _
        rw [← HWF.out, List.take_of_length_le (by have := HN.out; omega)]
      obtain ⟨d0, d1, d2, f1⟩ := st.f.cells3
      have hl1 := st.f.lt
      cases dn
      · by_cases hsz : 0 < fb.size
        · have HP : Hid (put fs ⟨fn, fb, s⟩ = o ++ [⟨fn, fb, s⟩]) := by
            show _ = _
            rw [← HPUT.out, HALL.out]
            simp only [opt_some (f := ⟨fn, fb, s⟩) hsz]
            rfl
          have t1 : decide ((0 : Int) < (fb.size : Int)) = true := decide_eq_true (by omega)
          clear HWF HALL HPUT
          go_wp2_with (at_builtin; refine wpList_append_own3 rfl (.tmp 57) (.tmp 59) rfl (base := w.heap.size + 1) (B2 := wr.heap.size + 1) (A2 := some ⟨wr.heap.size, 0, none⟩) (n := m) (m := 1) (c := 1) (xs := fcells o) (news := fcells [⟨fn, fb, s⟩]) (v := .slice A1 m c1) rfl rfl ?g1 rfl (fcells_one _) ?g2 ?g3 ?g4 ?_)
          case g1 => exact (st.next hB ((Below.refl _ wr).alloc (Nat.le_refl _) _)).own
          case g2 => exact Seen.one wr ⟨fn, fb, s⟩ _
          case g3 => have := st.z; simp; omega
          case g4 => omega
          intro A2 c2 W2 hown hb2
          rw [← fcells_append] at hown
          have st2 := st.app hB hown hb2
          obtain ⟨hseen, hcc⟩ := Seen.of_own3 hown
          go_wp2
          go_ret
          exact ⟨A2, m + 1, c2, rfl, by rw [HP.out, List.length_append, HM.out]; rfl, by rw [HP.out]; exact hseen, hcc, st2.b⟩
        · have HP : Hid (put fs ⟨fn, fb, s⟩ = o) := by
            show _ = _
            rw [← HPUT.out, HALL.out]
            simp only [opt_none (f := ⟨fn, fb, s⟩) (show fb.size = 0 by omega)]
            simp
          have t1 : decide ((0 : Int) < (fb.size : Int)) = false := bool_dec _ (by omega)
          clear HWF HALL HPUT
          obtain ⟨hseen, hcc⟩ := Seen.of_own3 st.own
          go_wp2
          go_ret
          exact ⟨A1, m, c1, rfl, by rw [HP.out, HM.out], by rw [HP.out]; exact hseen, hcc, st.b⟩
      · have HP : Hid (put fs ⟨fn, fb, s⟩ = o) := by
          show _ = _
          rw [← HPUT.out, HALL.out]
          rfl
        clear HWF HALL HPUT
        obtain ⟨hseen, hcc⟩ := Seen.of_own3 st.own
        go_wp2
        go_ret
        exact ⟨A1, m, c1, rfl, by rw [HP.out, HM.out], by rw [HP.out]; exact hseen, hcc, st.b⟩
end Go.Proofs.YtpppeadmhfggkaaGreatDoor
