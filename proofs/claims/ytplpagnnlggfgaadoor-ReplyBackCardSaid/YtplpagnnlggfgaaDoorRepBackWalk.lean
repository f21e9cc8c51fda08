/-
  The walk over ReplyBack. Conditions: the one package variable of errors holds what the program's text lays (Glob), and what a machine holds of the arguments.
-/
import Derived.Test.YtplpagnnlggfgaaDoorRepBx
namespace Go.Proofs.YtplpagnnlggfgaaDoor
open Go.RowKit

theorem RpOk.fit {r : Rp} (h : RpOk r) : RpFit r := by
  have h1 := h.1
  have h2 := h.2.1
  have ho := h.offs
  have p0 := h.2.2 0 (by omega)
  have p1 := h.2.2 1 (by omega)
  refine ⟨⟨by have := h1.1; omega, by have := h1.2; omega⟩, ⟨by have := h2.1; omega, by have := h2.2; omega⟩, ?_, ?_, ⟨by have := ho.1; omega, by have := ho.2; omega⟩⟩
  · split at p0
    · exact ⟨by have := p0.1; omega, by have := p0.2; omega⟩
    · simp only [FNo] at p0; omega
  · split at p1
    · exact ⟨by have := p1.1; omega, by have := p1.2; omega⟩
    · simp only [FNo] at p1; omega
theorem RpOk.rwfit {r : Rp} (h : RpOk r) : ∀ x ∈ r.rows, RwFit x := fun x hx => by
  obtain ⟨h1, h2, h3, h4, h5⟩ := h.rows.2 x hx
  exact ⟨⟨by have := h1.1; omega, by have := h1.2; omega⟩, ⟨by have := h2.1; omega, by have := h2.2; omega⟩, ⟨by have := h3.1; omega, by have := h3.2; omega⟩, by omega, by omega⟩
theorem renc_le {a : Rp} (h : RpOk a) : (renc a).length ≤ 1000000 := by
  have h1 := wrs_sz a
  have h2 := (wrs_ok h).2.2
  rw [h2] at h1
  omega
theorem bt_any {a : Rp} {ok : Bool} {w : World} {e : Ending} {w' : World} (h : BtRes a ok w e w') : Below w.heap.size w w' ∧ ∃ v er, e = .returned (.tuple #[v, .int .i64 er]) ∧ ((ok = true ∧ er = 0 ∧ ∃ A c l, v = .slice A l c ∧ l = (renc a).length ∧ Seen w' w'.heap.size A (cells (renc a)) ∧ l ≤ c) ∨ (ok = false ∧ er = 2)) := by
  obtain ⟨hb, ⟨rfl, A, c, l, rfl, h1, h2, h3⟩ | ⟨rfl, rfl⟩⟩ := h
  · exact ⟨hb, _, _, rfl, .inl ⟨rfl, rfl, A, c, l, rfl, h1, h2, h3⟩⟩
  · exact ⟨hb, _, _, rfl, .inr ⟨rfl, rfl⟩⟩
set_option maxRecDepth 100000 in
set_option maxHeartbeats 4000000 in
theorem back_walk (a : Rp) (A B : Option Addr) (n c lb cb : Nat) (bs : List UInt8) (w : World) (hG : Glob w) (ha : RGot w a A n c) (hs : Seen w w.heap.size B (cells bs)) (hl : lb = bs.length) :
    Calls Tryd.prog 3 #[.agg (rpvals a A n c), .slice B lb cb] w (LawRes w) := by
  obtain ⟨W0, hW0⟩ : ∃ W0, W0 = w.alloc (.cells (rpvals a A n c) 26) := ⟨_, rfl⟩
  have va : Var W0 w.heap.size 26 (rpvals a A n c) := by rw [hW0]; exact Var.new _ _ _
  have bb : Below w.heap.size w W0 := by rw [hW0]; exact below_new _
  have xa : Bx W0 w.heap.size a A n c := ⟨va, ha.below bb⟩
  have hs := (hs.below bb).up bb.size
  have gg := hG.next bb
  obtain ⟨ga, hga⟩ := mild_of a
  obtain ⟨ok, hok⟩ := wrOk_of a
  have HGA := Lib.hid hga
  have HOK := Lib.hid hok
  have HLB := Lib.hid hl
  have HW0 := Lib.hid hW0
  clear hW0 ha hG hga hok va hl
  simp only [rpvals] at HW0 ⊢
  go_enter Tryd.func3, Tryd.ntmps3
  go_upto_region 1 with fail
  rw [← HW0.out]
  clear HW0
  go_wp2_with (first | refine wpList_load_var rfl _ rfl Tryd.underlying26 rfl rfl xa.v (by simp only [rpvals]; kernel_rfl) ?_ | refine wpList_load_want (by rfl) _ rfl Tryd.underlying26 rfl rfl xa.v (by simp only [rpvals]; kernel_rfl) ?_)
  refine (pgreat_any a A n c _ ga W0 xa.r.rin (Nat.le_refl _) HGA.out).mono ?_
  rintro e W1 ⟨rfl, b1⟩
  have bb := bb.trans (b1.mono bb.size)
  have xa := xa.below b1
  have hs := (hs.below b1).up b1.size
  have gg := gg.next b1
  clear b1
  rcases ga with _ | _
  rotate_left
  · go_wp2_with fail
    refine (pwakes_any _ gg).mono ?_
    rintro e V9 ⟨rfl, b9⟩
    have bz := bb.trans (b9.mono bb.size)
    go_wp2
    go_ret
    exact ⟨rfl, bz⟩
  by_cases hlb : 4000 < lb
  · have y1 : decide ((4000 : Int) < (lb : Int)) = true := by simp; omega
    go_wp2_with fail
    refine (pwakes_any _ gg).mono ?_
    rintro e V9 ⟨rfl, b9⟩
    have bz := bb.trans (b9.mono bb.size)
    go_wp2
    go_ret
    exact ⟨rfl, bz⟩
  have y1 : decide ((4000 : Int) < (lb : Int)) = false := by simp; omega
  go_wp2_with (first | refine wpList_load_var rfl _ rfl Tryd.underlying26 rfl rfl xa.v (by simp only [rpvals]; kernel_rfl) ?_ | refine wpList_load_want (by rfl) _ rfl Tryd.underlying26 rfl rfl xa.v (by simp only [rpvals]; kernel_rfl) ?_)
  refine (pbytes_any a A n c _ ok W1 gg xa.r.rin (Nat.le_refl _) xa.r.fit xa.r.rows HOK.out).mono ?_
  rintro e W2 hbt
  obtain ⟨b2, v2, er2, rfl, hcase⟩ := bt_any hbt
  have HCASE := Lib.hid hcase
  clear hbt hcase
  have bb := bb.trans (b2.mono bb.size)
  have xa := xa.below b2
  have hs := (hs.below b2).up b2.size
  have gg := gg.next b2
  clear b2
  go_upto_if 27 with fail
  go_cut [] (fun wx => Below W2.heap.size W2 wx)
  case first =>
    rcases HCASE.out with ⟨rfl, rfl, A9, c9, l9, rfl, hl9, hs9, hc9⟩ | ⟨rfl, rfl⟩
    · have hgood := HOK.out.1 rfl
      have y2 : ((0 : Int) == 0) = true := by decide
      have hrd : RdIs ⟨(renc a).toArray⟩ a 0 := rdIs_ok hgood (bytesOf_mk _)
      have HR := Lib.hid (pget_any A9 l9 c9 _ (renc a) a 0 W2 gg hrd hs9 (Nat.le_refl _) hl9 (by have := renc_le hgood; omega))
      clear hgood hrd hs9 hl9 HCASE
      go_wp2_with fail
      refine HR.out.mono ?_
      rintro e W3 ⟨b3, A3, n3, c3, rfl, o3⟩
      have b23 := b3
      have bb := bb.trans (b3.mono bb.size)
      have xa := xa.below b3
      have hs := (hs.below b3).up b3.size
      have gg := gg.next b3
      clear b3
      clear HR
      go_upto_region 6 with (refine wpList_store_var rfl _ _ rfl rfl rfl (Var.new W3 #[.int .i8 0, .int .i64 0, .int .i64 0, .int .i64 0, .int .i64 0, .slice none 0 0] 26) rfl (by simp only [rpvals]; kernel_rfl) (rpvals_one a A3 n3 c3) ?_; intro W4 v4 o4; have b4 : Below W3.heap.size W3 W4 := Only.below (below_new _) o4 (Nat.le_refl _))
      have y4 := (o3.next b4).rin
      have xy : Var W4 W3.heap.size 26 (rpvals a A3 n3 c3) := v4
      have b24 := b23.trans (b4.mono b23.size)
      have bb := bb.trans (b4.mono bb.size)
      have xa := xa.below b4
      have hs := (hs.below b4).up b4.size
      have gg := gg.next b4
      clear b4
      clear o3 v4 o4 b23
      have y3 : ((0 : Int) != 0) = false := by decide
      go_wp2_with (first | refine wpList_load_var rfl _ rfl Tryd.underlying26 rfl rfl xa.v (by simp only [rpvals]; kernel_rfl) ?_ | refine wpList_load_want (by rfl) _ rfl Tryd.underlying26 rfl rfl xa.v (by simp only [rpvals]; kernel_rfl) ?_ | refine wpList_load_var rfl _ rfl Tryd.underlying26 rfl rfl xy (by simp only [rpvals]; kernel_rfl) ?_ | refine wpList_load_want (by rfl) _ rfl Tryd.underlying26 rfl rfl xy (by simp only [rpvals]; kernel_rfl) ?_)
      refine (psame_any a a A A3 n n3 c c3 W4.heap.size true W4 xa.r.rin y4 (Nat.le_refl _) ⟨fun _ => rfl, fun _ => rfl⟩).mono ?_
      rintro e W5 ⟨rfl, b5⟩
      have b25 := b24.trans (b5.mono b24.size)
      have bb := bb.trans (b5.mono bb.size)
      have xa := xa.below b5
      have hs := (hs.below b5).up b5.size
      have gg := gg.next b5
      clear b5
      clear b24 y4 xy
      go_wp2_with (first | refine wpList_load_var rfl _ rfl Tryd.underlying26 rfl rfl xa.v (by simp only [rpvals]; kernel_rfl) ?_ | refine wpList_load_want (by rfl) _ rfl Tryd.underlying26 rfl rfl xa.v (by simp only [rpvals]; kernel_rfl) ?_)
      refine (pmay_any a A n c _ true W5 xa.r.rin (Nat.le_refl _) xa.r.fit xa.r.rows HOK.out).mono ?_
      rintro e W6 ⟨rfl, b6⟩
      have b26 := b25.trans (b6.mono b25.size)
      go_wp2_with fail
      go_meet
      exact b26
    · have y2 : ((2 : Int) == 0) = false := by decide
      go_wp2_with fail
      go_meet
      exact Below.refl _ _
  case rest =>
  have b7 := hcut
  obtain ⟨W7, hW7⟩ : ∃ W7, W7 = wc := ⟨_, rfl⟩
  rw [← hW7] at b7 ⊢
  clear hW7 hcut HCASE
  have bb := bb.trans (b7.mono bb.size)
  have xa := xa.below b7
  have hs := (hs.below b7).up b7.size
  have gg := gg.next b7
  clear b7
  obtain ⟨y, er, hy⟩ := rdIs_of ⟨bs.toArray⟩
  have HY := Lib.hid hy
  have HR := Lib.hid (pget_any B lb cb _ bs y er W7 gg hy hs (Nat.le_refl _) HLB.out (by omega))
  clear hy
  go_wp2_with fail
  refine HR.out.mono ?_
  rintro e W8 ⟨b8, A8, n8, c8, rfl, o8⟩
  have bb := bb.trans (b8.mono bb.size)
  have xa := xa.below b8
  have hs := (hs.below b8).up b8.size
  have gg := gg.next b8
  clear b8
  clear HR
  go_upto_region 9 with (refine wpList_store_var rfl _ _ rfl rfl rfl (Var.new W8 #[.int .i8 0, .int .i64 0, .int .i64 0, .int .i64 0, .int .i64 0, .slice none 0 0] 26) rfl (by simp only [rpvals]; kernel_rfl) (rpvals_one y A8 n8 c8) ?_; intro W9 v9 o9; have b9 : Below W8.heap.size W8 W9 := Only.below (below_new _) o9 (Nat.le_refl _))
  have hown := (o8.next b9).rin
  have bb := bb.trans (b9.mono bb.size)
  have xa := xa.below b9
  have hs := (hs.below b9).up b9.size
  have gg := gg.next b9
  clear b9
  clear o8 o9 xa
  rcases HY.out with ⟨-, -, -, rfl⟩ | ⟨-, -, rfl⟩
  · obtain ⟨hgood, hbytes⟩ := RdIs.fine HY.out
    rw [bytesOf_mk] at hbytes
    have xa : Bx W9 W8.heap.size y A8 n8 c8 := ⟨v9, hown, hgood.fit, hgood.rwfit⟩
    have y2 : ((0 : Int) != 0) = false := by decide
    have HGD := Lib.hid hgood
    have HBS := Lib.hid hbytes
    clear v9 hown hgood hbytes
    go_wp2_with (first | refine wpList_load_var rfl _ rfl Tryd.underlying26 rfl rfl xa.v (by simp only [rpvals]; kernel_rfl) ?_ | refine wpList_load_want (by rfl) _ rfl Tryd.underlying26 rfl rfl xa.v (by simp only [rpvals]; kernel_rfl) ?_)
    refine (pbytes_any y A8 n8 c8 _ true W9 gg xa.r.rin (Nat.le_refl _) xa.r.fit xa.r.rows ⟨fun _ => HGD.out, fun _ => rfl⟩).mono ?_
    rintro e W10 ⟨b10, hcase⟩
    rcases hcase with ⟨-, A10, c10, l10, rfl, hl10, hs10, -⟩ | ⟨h, -⟩
    rotate_left
    · cases h
    have bb := bb.trans (b10.mono bb.size)
    have xa := xa.below b10
    have hs := (hs.below b10).up b10.size
    have gg := gg.next b10
    clear b10
    rw [← HBS.out] at hl10 hs10
    have k1 := str_now (P := Tryd.prog) hs10 27 9 5 l10 c10 hl10 Tryd.underlying27 Tryd.underlying5 Tryd.underlying9
    have k2 := str_now (P := Tryd.prog) hs 27 9 5 lb cb HLB.out Tryd.underlying27 Tryd.underlying5 Tryd.underlying9
    have y3 : ((0 : Int) == 0) = true := by decide
    have e3 : (bs == bs) = true := by simp
    clear hl10 hs10
    go_wp2_with (first | refine wpList_load_var rfl _ rfl Tryd.underlying26 rfl rfl xa.v (by simp only [rpvals]; kernel_rfl) ?_ | refine wpList_load_want (by rfl) _ rfl Tryd.underlying26 rfl rfl xa.v (by simp only [rpvals]; kernel_rfl) ?_)
    refine (pmay_any y A8 n8 c8 _ true W10 xa.r.rin (Nat.le_refl _) xa.r.fit xa.r.rows ⟨fun _ => HGD.out, fun _ => rfl⟩).mono ?_
    rintro e W11 ⟨rfl, b11⟩
    have bb := bb.trans (b11.mono bb.size)
    have xa := xa.below b11
    have hs := (hs.below b11).up b11.size
    have gg := gg.next b11
    clear b11
    clear k1 k2
    go_wp2_with fail
    refine (pwakes_any _ gg).mono ?_
    rintro e V9 ⟨rfl, b9⟩
    have bz := bb.trans (b9.mono bb.size)
    go_wp2
    go_ret
    exact ⟨rfl, bz⟩
  · have y2 : ((70 : Int) != 0) = true := by decide
    have y3 : ((70 : Int) == 70) = true := by decide
    clear v9 hown
    go_wp2_with fail
    refine (pwakes_any _ gg).mono ?_
    rintro e V9 ⟨rfl, b9⟩
    have bz := bb.trans (b9.mono bb.size)
    go_wp2
    go_ret
    exact ⟨rfl, bz⟩
end Go.Proofs.YtplpagnnlggfgaaDoor
