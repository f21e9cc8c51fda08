/-
  Contracts of reply's read and Read. Conditions: at most 1000000 bytes; Read: the one package variable of errors holds what the program's text lays (Glob).
-/
import Derived.Test.YtplpagnnlggfgaaDoorRepReply
import Derived.Test.YtplpagnnlggfgaaDoorRepRd
import Derived.Test.YtplpagnnlggfgaaDoorRepLens
namespace Go.Proofs.YtplpagnnlggfgaaDoor
open Go.RowKit

set_option maxRecDepth 100000 in
set_option maxHeartbeats 1000000 in
theorem stop3_any {P : Pass} (M : PIn P) (W : Nat) (wr : Int) (A : Array Value) (s : Ws P) (nm : ByteArray) (w : World) (h : Wk M w W wr 2 A s) :
    Calls Tryd.prog 20 #[.pointer (some ⟨W, 0, none⟩), .string nm] w (KRes M W wr 2 A ⟨s.st, true⟩ w) := by
  obtain ⟨er, hc, he⟩ := h.errc
  have c1 := h.cell 1 h.a1
  have f14 := h.free 14
  have hl := h.lt'
  rcases he with ⟨hb, rfl⟩ | ⟨hb, hch⟩
  · have hv := Var.new (w.setCell ⟨W, 14, none⟩ (fltV w.heap.size)) #[.string nm, .iface 23 (.int .i64 wr)] 80
    have hz : (w.setCell ⟨W, 14, none⟩ (fltV w.heap.size)).heap.size = w.heap.size := by simp [World.setCell]
    rw [hz] at hv
    have hk := h.stop2 (m' := 2) (bad := true) (er := fltV w.heap.size) (.cells #[.string nm, .iface 23 (.int .i64 wr)] 80) (.inr ⟨rfl, _, nm, _, rfl, hl, hv, .inl rfl⟩)
    have hK : KRes M W wr 2 A ⟨s.st, true⟩ w (.returned (.tuple #[])) ((w.setCell ⟨W, 14, none⟩ (fltV w.heap.size)).alloc (.cells #[.string nm, .iface 23 (.int .i64 wr)] 80)) := ⟨rfl, hk, ((Tn.refl _ _).setCell (.inl (by simp)) _).alloc _⟩
    have HK := Lib.hid hK
    clear hz
    clear hk hK hv h hb
    go_enter Tryd.func20, Tryd.ntmps20
    go_wp2
    refine bodyPost_end (results_none rfl _ _ _) rfl ?_
    exact HK.out
  · have hs : s = ⟨s.st, true⟩ := by cases s; simp only at hb; rw [hb]
    have hK : KRes M W wr 2 A ⟨s.st, true⟩ w (.returned (.tuple #[])) w := ⟨rfl, hs ▸ h, Tn.refl _ _⟩
    have HK := Lib.hid hK
    obtain ⟨i, fld, u, rfl, _, _, _⟩ := hch
    clear hK h hb hs
    go_enter Tryd.func20, Tryd.ntmps20
    go_wp2
    refine bodyPost_end (results_none rfl _ _ _) rfl ?_
    exact HK.out
/-- What read hands back. -/
def RdRes (y : Rp) (er : Int) (w : World) (e : Ending) (w' : World) : Prop :=
  Below w.heap.size w w' ∧ ∃ A n c ev, e = .returned (.tuple #[.agg (rpvals y A n c), ev]) ∧ ROwn w.heap.size w' y A n c ∧ ((er = 0 ∧ ev = .nilIface) ∨ (er = 70 ∧ ∃ lo, Chain w' lo 70 2 ev))
theorem noRp_fit : RpFit noRp := ⟨by simp [noRp], by simp [noRp], by simp [noRp], by simp [noRp], by simp [noRp]⟩

set_option maxRecDepth 100000 in
set_option maxHeartbeats 4000000 in
theorem pread_any (A : Option Addr) (l c B : Nat) (bs : List UInt8) (y : Rp) (er : Int) (w : World) (hq : RdIs ⟨bs.toArray⟩ y er) (hs : Seen w B A (cells bs)) (hB : B ≤ w.heap.size) (hl : l = bs.length) (hx : l ≤ 1000000) :
    Calls Tryd.prog 15 #[.slice A l c] w (RdRes y er w) := by
  obtain ⟨W0, hW0⟩ : ∃ W0, W0 = w.alloc (.cells #[.int .i8 0, .int .i64 0, .int .i64 0, .int .i64 0, .int .i64 0, .slice none 0 0] 26) := ⟨_, rfl⟩
  have v0 : Var W0 w.heap.size 26 #[.int .i8 0, .int .i64 0, .int .i64 0, .int .i64 0, .int .i64 0, .slice none 0 0] := by rw [hW0]; exact Var.new _ _ _
  have b0 : Below w.heap.size w W0 := by rw [hW0]; exact below_new _
  have hstr := str_now (P := Tryd.prog) (hs.below (b0.mono hB)) 27 9 5 l c hl Tryd.underlying27 Tryd.underlying5 Tryd.underlying9
  obtain ⟨s, hss⟩ : ∃ s : ByteArray, s = ⟨bs.toArray⟩ := ⟨_, rfl⟩
  have hsx : s.size ≤ 1000000 := by rw [hss, ← bytesOf_length, bytesOf_mk]; omega
  rw [← hss] at hq hstr
  have HQ := Lib.hid hq
  have HW0 := Lib.hid hW0
  clear hW0 hs hq hl hx hss
  go_enter Tryd.func15, Tryd.ntmps15
  go_upto_region 1 with fail
  rw [← HW0.out]
  go_wp2_with fail
  refine (new_any s W0).mono ?_
  rintro e w1 ⟨rfl, r1, b1⟩
  obtain ⟨g, hg⟩ : ∃ g, g = W0.heap.size := ⟨_, rfl⟩
  rw [← hg] at r1 ⊢
  have hgz : w.heap.size < g := by rw [hg]; exact v0.lt
  have v1 := v0.below b1 v0.lt
  have bb1 := b0.trans (b1.mono b0.size)
  have hg1 := Var.lt r1
  clear v0 b0 b1 hg hstr HW0
  go_upto_region 2 with fail
  obtain ⟨p, hp⟩ : ∃ p, p = w1.heap.size := ⟨_, rfl⟩
  obtain ⟨W2, hW2⟩ : ∃ W2, W2 = w1.alloc (.cells #[.pointer (some ⟨g, 0, none⟩)] 63) := ⟨_, rfl⟩
  have vp : Var W2 p 63 #[.pointer (some ⟨g, 0, none⟩)] := by rw [hW2, hp]; exact Var.new _ _ _
  have b2 : Below w1.heap.size w1 W2 := by rw [hW2]; exact below_new _
  have r2 : Rd 92 W2 g s 0 false := Var.below r1 b2 hg1
  have v2 := v1.below b2 v1.lt
  have bb2 := bb1.trans (b2.mono bb1.size)
  have hgp : g < p := by rw [hp]; exact hg1
  rw [← hW2, ← hp]
  clear hW2 hp b2 r1 v1 bb1 hg1
  have cp := vp.cell 0 rfl
  have zp := vp.lt
  go_upto_region 3 with fail
  obtain ⟨W, hW⟩ : ∃ W, W = W2.heap.size := ⟨_, rfl⟩
  obtain ⟨W3, hW3⟩ : ∃ W3, W3 = W2.alloc (.cells #[.iface 63 (.agg #[.pointer (some ⟨g, 0, none⟩)]), .int .i64 70, .int .i8 0, .int .i64 0, .int .i64 0, .int .i64 0, .int .i64 0, .slice none 0 0, .int .i8 0, .int .i64 0, .int .i64 0, .int .i64 0, .int .i64 0, .slice none 0 0, .nilIface] 56) := ⟨_, rfl⟩
  have b3 : Below W2.heap.size W2 W3 := by rw [hW3]; exact below_new _
  have hpW : p < W := by rw [hW]; exact zp
  have k3 : Wk (rdIn g s hsx) W3 W 70 1 (wcells (.iface (rdIn g s hsx).T (rdIn g s hsx).v) 70 noRp none 0 0 noRp none 0 0) ⟨((0, false) : Nat × Bool), false⟩ := by
    refine ⟨⟨.nilIface, ?_, .inl ⟨rfl, rfl⟩⟩, ?_, (show g < W by omega), rfl, rfl, rfl⟩
    · rw [hW3, hW]; exact Var.new _ _ _
    · exact (⟨Var.below r2 b3 (Var.lt r2), Nat.zero_le _⟩ : rdRep g s W3 (0, false))
  have v3 := v2.below b3 v2.lt
  have vp3 := vp.below b3 vp.lt
  have bb3 := bb2.trans (b3.mono bb2.size)
  rw [← hW3, ← hW]
  have hcall := reply_any (rdIn g s hsx) W 70 noRp none 0 0 ⟨((0, false) : Nat × Bool), false⟩ W3 k3 (by show 0 ≤ 1000; omega) noRp_fit rfl (Seen.nil _ _ _) (by omega) (fun x hx => by cases hx)
  obtain ⟨hz1, hz2⟩ := wreply_small (rdIn g s hsx) (s := ⟨((0, false) : Nat × Bool), false⟩) (fr := noRp) (fun x hx => by cases hx)
  have hres := HQ.out
  unfold RdIs rds at hres
  obtain ⟨X, hX⟩ : ∃ X, X = wreply (P := prd s) ⟨((0, false) : Nat × Bool), false⟩ noRp := ⟨_, rfl⟩
  rw [← hX] at hcall hz1 hz2 hres
  have HC := Lib.hid hcall
  have HRES := Lib.hid hres
  have HWW := Lib.hid hW
  clear hX hcall hW3 hres hW k3 b3 r2 v2 vp bb2 cp zp HQ
  go_wp2_with fail
  refine HC.out.mono ?_
  rintro e w4 ⟨rfl, At, nt, ct, k4, o4, l4, t4'⟩
  have t4 : Tn [g, W] W3 w4 := t4'
  have v4 := v3.tn t4 (by simp; omega) (by decide)
  have vp4 := vp3.tn t4 (by simp; omega) (by decide)
  have bb4 := bb3.trans (t4.below (B := w.heap.size) bb3.size (by intro y hy; simp at hy; rcases hy with h | h <;> omega))
  obtain ⟨⟨sp, sb⟩, hst⟩ : ∃ x : Nat × Bool, X.2.st = x := ⟨_, rfl⟩
  have hrep : rdRep g s w4 X.2.st := k4.rep
  rw [hst] at hrep
  obtain ⟨r4, hsp⟩ := hrep
  simp only at r4 hsp
  obtain ⟨er9, he9⟩ := endIs_of s sp sb
  have HE9 := Lib.hid he9
  have HST := Lib.hid hst
  have cp := vp4.cell 0 rfl
  have zp := vp4.lt
  clear HC v3 vp3 bb3 t4 t4' he9 hst vp4
  go_wp2_with fail
  refine (end_all g s sp sb er9 w4 HE9.out r4).mono ?_
  rintro e w5' ⟨rfl, nq, rfl⟩
  obtain ⟨w5, hw5⟩ : ∃ w5, w5 = w4.drewN nq := ⟨_, rfl⟩
  have b5 : Below w4.heap.size w4 w5 := by rw [hw5]; exact (Below.refl _ _).drewN' nq
  have k5 := k4.below b5
  have v5 := v4.below b5 v4.lt
  have o5 := own_next o4 b5
  have bb5 := bb4.trans (b5.mono bb4.size)
  rw [← hw5]
  clear hw5 b5 k4 v4 o4 bb4 r4 cp zp
  have z5 := k5.lt'
  obtain ⟨e5, ce, he⟩ := k5.errc
  rcases HE9.out with ⟨rfl, rfl, rfl⟩ | ⟨hor, rfl⟩
  · have y0 : ((0 : Int) != 0) = false := by decide
    rcases hbb : X.2.bad with _ | _
    · have HY : Hid (y = X.1 ∧ er = 0) := by
        show _ ∧ _
        rcases HRES.out with ⟨_, _, h1, h2⟩ | ⟨h, _⟩
        · exact ⟨h1, h2⟩
        · exact absurd ⟨hbb, HST.out⟩ h
      obtain rfl : e5 = .nilIface := by
        rcases he with ⟨_, h⟩ | ⟨h, _⟩
        · exact h
        · rw [hbb] at h; cases h
      have e0 : w5.cell? ⟨W, 8, none⟩ = some (.int .i8 X.1.kind) := k5.cell 8 rfl
      have e1 : w5.cell? ⟨W, 9, none⟩ = some (.int .i64 X.1.e) := k5.cell 9 rfl
      have e2 : w5.cell? ⟨W, 10, none⟩ = some (.int .i64 X.1.pid) := k5.cell 10 rfl
      have e3 : w5.cell? ⟨W, 11, none⟩ = some (.int .i64 X.1.ep) := k5.cell 11 rfl
      have e4 : w5.cell? ⟨W, 12, none⟩ = some (.int .i64 X.1.off) := k5.cell 12 rfl
      have e6 : w5.cell? ⟨W, 13, none⟩ = some (.slice At nt ct) := k5.cell 13 rfl
      clear he hbb
      go_wp2_with (refine wpList_store_var rfl _ _ rfl rfl rfl v5 rfl (by kernel_rfl) (rpvals_one X.1 At nt ct) ?_; intro W9 v9 o9)
      refine bodyPost_ret (results_var_tmp rfl rfl rfl v9 Tryd.underlying26 rfl (by kernel_rfl)) rfl ?_
      obtain ⟨rfl, rfl⟩ := HY.out
      have ow := own_down (Only.own o5 o9 (by omega)) (show w.heap.size ≤ W + 1 by omega)
      exact ⟨Only.below bb5 o9 (Nat.le_refl _), At, nt, ct, .nilIface, rfl, ⟨ow, l4, by omega, hz2⟩, .inl ⟨rfl, rfl⟩⟩
    · have HNO : Hid (y = noRp ∧ er = 70) := by
        show _ ∧ _
        rcases HRES.out with ⟨h, _⟩ | ⟨_, h1, h2⟩
        · rw [hbb] at h; cases h
        · exact ⟨h1, h2⟩
      rcases he with ⟨h, _⟩ | ⟨_, hch⟩
      · rw [hbb] at h; cases h
      obtain ⟨i5, f5, u5, rfl, hr⟩ := id hch
      have HCH := Lib.hid hch
      clear hch hr hbb k5 o5
      go_wp2
      have h0 : w5.drew.cell? ⟨W, 14, none⟩ = some (fltV i5) ∧ ∃ cs, Var w5.drew w.heap.size 26 cs ∧ cs.size = 6 := ⟨ce, _, v5, rfl⟩
      have bz : Below w.heap.size w w5.drew := bb5.trans (Below.refl _ _).drew
      have HCZ := Lib.hid (Chain.turn (w := w5) (w' := w5.drew) (fun _ _ _ _ _ hc => hc) HCH.out)
      refine wp_region_held_drew (S := fun w' => w'.cell? ⟨W, 14, none⟩ = some (fltV i5) ∧ ∃ cs, Var w' w.heap.size 26 cs ∧ cs.size = 6) (by kernel_rfl) h0 (fun hHeld => ?_)
      generalize w5.drew = W7 at h0 bz HCZ hHeld ⊢
      clear hHeld
      refine fld_takes [0, 1, 2, 3, 4] _ 2 _ _ _ (by kernel_rfl) (fun _ d _ _ _ h => by cases d <;> exact h) (by rfl) (by kernel_rfl) (by assumption) ?_
      refine fld_taken (v := ?_) rfl (by rfl) (fun w' hw' => ?_) ?_
      rotate_left
      · (go_simp <;> with_reducible rfl)
      simp only [Act.put, List.getElem_toArray, List.getElem_cons_zero, List.setIfInBounds_toArray, List.set_cons_zero, List.set_cons_succ]
      refine fld_taken (v := ?_) rfl (by rfl) (fun w' hw' => ?_) ?_
      rotate_left
      · (go_simp <;> with_reducible rfl)
      simp only [Act.put, List.getElem_toArray, List.getElem_cons_succ, List.getElem_cons_zero, List.setIfInBounds_toArray, List.set_cons_zero, List.set_cons_succ]
      refine fld_taken (v := ?_) rfl (by rfl) (fun w' hw' => ?_) ?_
      rotate_left
      · (go_simp <;> with_reducible rfl)
      simp only [Act.put, List.getElem_toArray, List.getElem_cons_succ, List.getElem_cons_zero, List.setIfInBounds_toArray, List.set_cons_zero, List.set_cons_succ]
      refine fld_taken (v := ?_) rfl (by rfl) (fun w' hw' => ?_) ?_
      rotate_left
      · (go_simp <;> with_reducible rfl)
      simp only [Act.put, List.getElem_toArray, List.getElem_cons_succ, List.getElem_cons_zero, List.setIfInBounds_toArray, List.set_cons_zero, List.set_cons_succ]
      refine fld_taken (v := ?_) rfl (by rfl) (fun w' hw' => ?_) ?_
      rotate_left
      · have c := hw'.1
        (go_simp <;> with_reducible rfl)
      simp only [Act.put, List.getElem_toArray, List.getElem_cons_succ, List.getElem_cons_zero, List.setIfInBounds_toArray, List.set_cons_zero, List.set_cons_succ]
      refine fld_taken_nil ?_
      refine fld_alone (i := 5) (by kernel_rfl) rfl (by rfl) (fun K hK => ?_)
      obtain ⟨h01, cs7, hc7, hz7⟩ := h0
      refine wp_store_v (.tmp 2) (.tmp 27) rfl rfl rfl hc7 (by rw [hz7]; rfl) (by kernel_rfl) (rpvals_one noRp none 0 0) ?_
      intro W9 v9 o9
      have h9 : W9.cell? ⟨W, 14, none⟩ = some (fltV i5) ∧ ∃ cs, Var W9 w.heap.size 26 cs ∧ cs.size = 6 := ⟨by rw [← h01]; simp only [World.cell?, o9.block W (by omega)], _, v9, rfl⟩
      refine hK.out _ _ h9 ?_
      refine fld_takes [6] _ 0 _ _ _ (by kernel_rfl) (fun _ d _ _ _ h => by cases d <;> exact h) (by rfl) (by kernel_rfl) (by assumption) ?_
      refine fld_taken (v := ?_) rfl (by rfl) (fun w' hw' => ?_) ?_
      rotate_left
      · (go_simp <;> with_reducible rfl)
      simp only [Act.put, List.getElem_toArray, List.getElem_cons_succ, List.getElem_cons_zero, List.setIfInBounds_toArray, List.set_cons_zero, List.set_cons_succ]
      refine fld_taken_nil ?_
      refine wpAnyH_done (by kernel_rfl) ?_ _
      have d9 := Only.below bz o9 (Nat.le_refl _)
      have HC9 : Hid (Chain W9 W 70 2 (fltV i5)) := Chain.turn (fun h T cs hh _ hc => o9.var hc (by omega)) HCZ.out
      clear hK K h01 hc7 h9 o9
      go_wp2
      refine bodyPost_ret (results_var_tmp rfl rfl rfl v9 Tryd.underlying26 rfl (by kernel_rfl)) rfl ?_
      obtain ⟨rfl, rfl⟩ := HNO.out
      exact ⟨d9, none, 0, 0, fltV i5, rfl, bare_rown _ _ rfl, .inr ⟨rfl, W, HC9.out⟩⟩
  · have y0 : ((70 : Int) != 0) = true := by decide
    have HNO : Hid (y = noRp ∧ er = 70) := by
      show _ ∧ _
      rcases HRES.out with ⟨_, h, _⟩ | ⟨_, h1, h2⟩
      · rw [HST.out] at h
        injection h with h1 h2
        subst h1 h2
        rcases hor with hor | hor
        · cases hor
        · exact absurd rfl hor
      · exact ⟨h1, h2⟩
    have HSTOP := Lib.hid (stop3_any (rdIn g s hsx) W 70 _ X.2 ⟨#[101, 110, 100]⟩ w5 k5)
    clear hor k5 ce he o5
    go_wp2_with fail
    refine HSTOP.out.mono ?_
    rintro e w6 ⟨rfl, k6, t6'⟩
    have t6 : Tn [g, W] w5 w6 := t6'
    have v6 := v5.tn t6 (by simp; omega) (by decide)
    have bb6 := bb5.trans (t6.below (B := w.heap.size) bb5.size (by intro y hy; simp at hy; rcases hy with h | h <;> omega))
    obtain ⟨e6, ce, he⟩ := k6.errc
    have z6 := k6.lt'
    rcases he with ⟨h, _⟩ | ⟨_, hch⟩
    · cases h
    obtain ⟨i5, f5, u5, rfl, hr⟩ := id hch
    have HCH := Lib.hid hch
    clear hch hr k6 HSTOP t6 t6' v5 bb5
    go_wp2
    have h0 : w6.drew.cell? ⟨W, 14, none⟩ = some (fltV i5) ∧ ∃ cs, Var w6.drew w.heap.size 26 cs ∧ cs.size = 6 := ⟨ce, _, v6, rfl⟩
    have bz : Below w.heap.size w w6.drew := bb6.trans (Below.refl _ _).drew
    have HCZ := Lib.hid (Chain.turn (w := w6) (w' := w6.drew) (fun _ _ _ _ _ hc => hc) HCH.out)
    refine wp_region_held_drew (S := fun w' => w'.cell? ⟨W, 14, none⟩ = some (fltV i5) ∧ ∃ cs, Var w' w.heap.size 26 cs ∧ cs.size = 6) (by kernel_rfl) h0 (fun hHeld => ?_)
    generalize w6.drew = W7 at h0 bz HCZ hHeld ⊢
    clear hHeld
    refine fld_takes [0, 1, 2, 3, 4] _ 2 _ _ _ (by kernel_rfl) (fun _ d _ _ _ h => by cases d <;> exact h) (by rfl) (by kernel_rfl) (by assumption) ?_
    refine fld_taken (v := ?_) rfl (by rfl) (fun w' hw' => ?_) ?_
    rotate_left
    · (go_simp <;> with_reducible rfl)
    simp only [Act.put, List.getElem_toArray, List.getElem_cons_zero, List.setIfInBounds_toArray, List.set_cons_zero, List.set_cons_succ]
    refine fld_taken (v := ?_) rfl (by rfl) (fun w' hw' => ?_) ?_
    rotate_left
    · (go_simp <;> with_reducible rfl)
    simp only [Act.put, List.getElem_toArray, List.getElem_cons_succ, List.getElem_cons_zero, List.setIfInBounds_toArray, List.set_cons_zero, List.set_cons_succ]
    refine fld_taken (v := ?_) rfl (by rfl) (fun w' hw' => ?_) ?_
    rotate_left
    · (go_simp <;> with_reducible rfl)
    simp only [Act.put, List.getElem_toArray, List.getElem_cons_succ, List.getElem_cons_zero, List.setIfInBounds_toArray, List.set_cons_zero, List.set_cons_succ]
    refine fld_taken (v := ?_) rfl (by rfl) (fun w' hw' => ?_) ?_
    rotate_left
    · (go_simp <;> with_reducible rfl)
    simp only [Act.put, List.getElem_toArray, List.getElem_cons_succ, List.getElem_cons_zero, List.setIfInBounds_toArray, List.set_cons_zero, List.set_cons_succ]
    refine fld_taken (v := ?_) rfl (by rfl) (fun w' hw' => ?_) ?_
    rotate_left
    · have c := hw'.1
      (go_simp <;> with_reducible rfl)
    simp only [Act.put, List.getElem_toArray, List.getElem_cons_succ, List.getElem_cons_zero, List.setIfInBounds_toArray, List.set_cons_zero, List.set_cons_succ]
    refine fld_taken_nil ?_
    refine fld_alone (i := 5) (by kernel_rfl) rfl (by rfl) (fun K hK => ?_)
    obtain ⟨h01, cs7, hc7, hz7⟩ := h0
    refine wp_store_v (.tmp 2) (.tmp 27) rfl rfl rfl hc7 (by rw [hz7]; rfl) (by kernel_rfl) (rpvals_one noRp none 0 0) ?_
    intro W9 v9 o9
    have h9 : W9.cell? ⟨W, 14, none⟩ = some (fltV i5) ∧ ∃ cs, Var W9 w.heap.size 26 cs ∧ cs.size = 6 := ⟨by rw [← h01]; simp only [World.cell?, o9.block W (by omega)], _, v9, rfl⟩
    refine hK.out _ _ h9 ?_
    refine fld_takes [6] _ 0 _ _ _ (by kernel_rfl) (fun _ d _ _ _ h => by cases d <;> exact h) (by rfl) (by kernel_rfl) (by assumption) ?_
    refine fld_taken (v := ?_) rfl (by rfl) (fun w' hw' => ?_) ?_
    rotate_left
    · (go_simp <;> with_reducible rfl)
    simp only [Act.put, List.getElem_toArray, List.getElem_cons_succ, List.getElem_cons_zero, List.setIfInBounds_toArray, List.set_cons_zero, List.set_cons_succ]
    refine fld_taken_nil ?_
    refine wpAnyH_done (by kernel_rfl) ?_ _
    have d9 := Only.below bz o9 (Nat.le_refl _)
    have HC9 : Hid (Chain W9 W 70 2 (fltV i5)) := Chain.turn (fun h T cs hh _ hc => o9.var hc (by omega)) HCZ.out
    clear hK K h01 hc7 h9 o9
    go_wp2
    refine bodyPost_ret (results_var_tmp rfl rfl rfl v9 Tryd.underlying26 rfl (by kernel_rfl)) rfl ?_
    obtain ⟨rfl, rfl⟩ := HNO.out
    exact ⟨d9, none, 0, 0, fltV i5, rfl, bare_rown _ _ rfl, .inr ⟨rfl, W, HC9.out⟩⟩
/-- What Read hands back. -/
def GetRes (y : Rp) (er : Int) (w : World) (e : Ending) (w' : World) : Prop := Below w.heap.size w w' ∧ ∃ A n c, e = .returned (.tuple #[.agg (rpvals y A n c), .int .i64 er]) ∧ ROwn w.heap.size w' y A n c
theorem own_type {w w' : World} {g base e n size T : Nat} {cs : Array Value} {v : Value} {xs : List Value} (h : w.ownsRow base e size v n xs) (hv : Var w g T cs) (hT : T ≠ e) (ho : Only g w w') : w'.ownsRow base e size v n xs := own_var h hv hT ho.block

set_option maxRecDepth 100000 in
set_option maxHeartbeats 1000000 in
theorem pget_any (A : Option Addr) (l c B : Nat) (bs : List UInt8) (y : Rp) (er : Int) (w : World) (hG : Glob w) (hq : RdIs ⟨bs.toArray⟩ y er) (hs : Seen w B A (cells bs)) (hB : B ≤ w.heap.size) (hl : l = bs.length) (hx : l ≤ 1000000) :
    Calls Tryd.prog 9 #[.slice A l c] w (GetRes y er w) := by
  obtain ⟨W0, hW0⟩ : ∃ W0, W0 = w.alloc (.cells #[.int .i8 0, .int .i64 0, .int .i64 0, .int .i64 0, .int .i64 0, .slice none 0 0] 26) := ⟨_, rfl⟩
  have v0 : Var W0 w.heap.size 26 #[.int .i8 0, .int .i64 0, .int .i64 0, .int .i64 0, .int .i64 0, .slice none 0 0] := by rw [hW0]; exact Var.new _ _ _
  have b0 : Below w.heap.size w W0 := by rw [hW0]; exact below_new _
  have HR := Lib.hid (pread_any A l c B bs y er W0 hq (hs.below (b0.mono hB)) (Nat.le_trans hB b0.size) hl hx)
  have g0 := hG.next b0
  have HW0 := Lib.hid hW0
  clear hW0 hs hq hl hx hG
  go_enter Tryd.func9, Tryd.ntmps9
  go_upto_region 1 with fail
  rw [← HW0.out]
  go_wp2_with fail
  refine HR.out.mono ?_
  rintro e W1 ⟨hb1, A', n', c', ev, rfl, ho, hcase⟩
  have g1 := g0.next hb1
  have v1 := v0.below hb1 v0.lt
  have b1 := b0.trans (hb1.mono b0.size)
  have hcode : ∀ W', Below W1.heap.size W1 W' → Calls Tryd.prog 14 #[ev] W' fun r w' => r = .returned (.int .i64 er) ∧ Below W'.heap.size W' w' := by
    rcases hcase with ⟨rfl, rfl⟩ | ⟨rfl, lo, hch⟩
    · exact fun W' _ => code_nil W'
    · exact fun W' hb => code_flt lo ev 70 W' (g1.next hb) (hch.turn fun _ _ _ _ _ hc => hc.below hb hc.lt)
  have HC := Lib.hid hcode
  clear hcase HR HW0 g0 v0 g1 hcode
  have ho := ho.down b0.size
  obtain ⟨q1, hq1⟩ : ∃ q, q = W1.heap.size := ⟨_, rfl⟩
  have hwq : w.heap.size < q1 := by rw [hq1]; exact v1.lt
  clear hb1
  go_upto_region 2 with (refine wpList_store_var rfl _ _ rfl rfl rfl (Var.new W1 #[.int .i8 0, .int .i64 0, .int .i64 0, .int .i64 0, .int .i64 0, .slice none 0 0] 26) rfl (by simp only [rpvals]; kernel_rfl) (rpvals_one y A' n' c') ?_; intro W2 v2 o2; have b12 : Below W1.heap.size W1 W2 := Only.below (below_new _) o2 (Nat.le_refl _); have v12 := v1.below b12 v1.lt)
  have b2 := b1.trans (b12.mono b1.size)
  have hown := ho.next b12
  clear ho
  rw [← hq1] at v2 ⊢
  have h0 : Var W2.drew q1 26 (rpvals y A' n' c') := v2
  have w0 : Var W2.drew w.heap.size 26 #[.int .i8 0, .int .i64 0, .int .i64 0, .int .i64 0, .int .i64 0, .slice none 0 0] := v12
  have d0 : Below w.heap.size w W2.drew := b2.trans ((Below.refl _ _).drew)
  have p0 : ROwn w.heap.size W2.drew y A' n' c' := hown.next ((Below.refl _ _).drew)
  have HD := Lib.hid (b12.trans ((Below.refl W1.heap.size W2).drew))
  clear v2 v12 b2 hown b12 o2 v1 b1 hq1
  refine wp_region_held_drew (S := fun w' => Var w' q1 26 (rpvals y A' n' c')) (by kernel_rfl) h0 (fun hHeld => ?_)
  generalize W2.drew = W3 at h0 w0 d0 p0 HD hHeld ⊢
  clear hHeld
  refine fld_takes [0, 1] _ 3 _ _ _ (by kernel_rfl) (fun _ d _ _ _ h => by cases d <;> exact h) (by rfl) (by kernel_rfl) (by assumption) ?_
  refine fld_taken (v := ?_) rfl (by rfl) (fun w' hw' => ?_) ?_
  rotate_left
  · refine exec_load_v (x := .tmp 4) ?_ ?_ hw' Tryd.underlying26 rfl (by simp only [rpvals]; kernel_rfl) <;> rfl
  simp only [Act.put, List.getElem_toArray, List.getElem_cons_zero, List.setIfInBounds_toArray, List.set_cons_zero, List.set_cons_succ]
  refine fld_taken (v := ?_) rfl (by rfl) (fun w' hw' => ?_) ?_
  rotate_left
  · (go_simp <;> with_reducible rfl)
  simp only [Act.put, List.getElem_toArray, List.getElem_cons_succ, List.getElem_cons_zero, List.setIfInBounds_toArray, List.set_cons_zero, List.set_cons_succ]
  refine fld_taken_nil ?_
  refine fld_alone (i := 2) (by kernel_rfl) rfl (by rfl) (fun K hK => ?_)
  go_simp
  refine (HC.out W3 HD.out).mono ?_
  rintro e W4 ⟨rfl, hb4⟩
  have h4 := h0.below hb4 h0.lt
  have w4 := w0.below hb4 w0.lt
  have d4 := d0.trans (hb4.mono d0.size)
  have p4 := p0.next hb4
  go_wp2_with fail
  refine hK.out _ _ h4 ?_
  clear hK K
  clear h0 w0 d0 p0 HD HC hb4
  refine fld_alone (i := 3) (by kernel_rfl) rfl (by rfl) (fun K hK => ?_)
  refine wp_store_v (.tmp 2) (.tmp 11) rfl rfl rfl w4 rfl (by simp only [rpvals]; kernel_rfl) (rpvals_one _ _ _ _) ?_
  intro W9 v9 o9
  refine hK.out _ _ (o9.var h4 (by omega)) ?_
  have h9 := o9.var h4 (show q1 ≠ w.heap.size by omega)
  refine fld_takes [4] _ 0 _ _ _ (by kernel_rfl) (fun _ d _ _ _ h => by cases d <;> exact h) (by rfl) (by kernel_rfl) (by assumption) ?_
  refine fld_taken (v := ?_) rfl (by rfl) (fun w' hw' => ?_) ?_
  rotate_left
  · (go_simp <;> with_reducible rfl)
  simp only [Act.put, List.getElem_toArray, List.getElem_cons_succ, List.getElem_cons_zero, List.setIfInBounds_toArray, List.set_cons_zero, List.set_cons_succ]
  refine fld_taken_nil ?_
  refine wpAnyH_done (by kernel_rfl) ?_ _
  have d9 := Only.below d4 o9 (Nat.le_refl _)
  have p9 : ROwn w.heap.size W9 y A' n' c' := ⟨own_type p4.rows w4 (by decide) o9, p4.len, p4.max, p4.sizes⟩
  clear hK K h4 w4 d4 p4
  go_wp2
  refine bodyPost_ret (results_var_tmp rfl rfl rfl v9 Tryd.underlying26 rfl (by simp only [rpvals]; kernel_rfl)) rfl ?_
  exact ⟨d9, A', n', c', rfl, p9⟩
end Go.Proofs.YtplpagnnlggfgaaDoor
