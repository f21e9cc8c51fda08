/-
  The walk over ReplyErrors. Condition: the one package variable of errors holds what the program's text lays (Glob), and what a machine holds of the reply (RGot).
-/
import Derived.Test.YtplpagnnlggfgaaDoorRepWakes
import Derived.Test.YtplpagnnlggfgaaDoorRepGreat
import Derived.Test.YtplpagnnlggfgaaDoorRepIn
namespace Go.Proofs.YtplpagnnlggfgaaDoor
open Go.RowKit

/-- What the law hands back. -/
def LawRes (w : World) (e : Ending) (w' : World) : Prop := e = .returned (.bool true) ∧ Below w.heap.size w w'
theorem err_only {a : Rp} (h : RpOk a) (he : a.e ≠ 0) : a = ⟨a.kind, a.e, 0, 0, 0, []⟩ := by
  have hf : ∀ k, hasF a.kind a.e k = false := fun k => by
    have : (a.e == 0) = false := by rw [beq_eq_false_iff_ne]; exact he
    simp only [hasF, this, Bool.false_and]
  have h0 := h.2.2 0 (by omega)
  have h1 := h.2.2 1 (by omega)
  have h2 := h.2.2 2 (by omega)
  have h3 := h.2.2 3 (by omega)
  rw [hf] at h0 h1 h2 h3
  simp only [Bool.false_eq_true, if_false, FNo] at h0 h1 h2 h3
  obtain ⟨kind, e, pid, ep, off, rows⟩ := a
  simp only at h0 h1 h2 h3
  subst h0 h1 h2 h3
  rfl
theorem err_len {a : Rp} (h : RpOk a) (he : a.e ≠ 0) : 2 ≤ (renc a).length ∧ (renc a).length ≤ 3 := by
  have hf : ∀ k, hasF a.kind a.e k = false := fun k => by
    have : (a.e == 0) = false := by rw [beq_eq_false_iff_ne]; exact he
    simp only [hasF, this, Bool.false_and]
  have h1 := h.1
  have h2 := h.2.1
  unfold renc
  simp only [fencs, hf, Bool.false_eq_true, if_false, List.append_nil, List.length_append]
  have a1 := VP.enc_pos a.kind.toNat
  have a2 := VP.enc_pos a.e.toNat
  have a3 := VP.enc_le 1 a.kind.toNat (by omega) (by have := h1.2; omega)
  have a4 := VP.enc_le 2 a.e.toNat (by omega) (by have := h2.2; omega)
  omega

set_option maxRecDepth 100000 in
set_option maxHeartbeats 2000000 in
theorem errors_walk (a : Rp) (A : Option Addr) (n c : Nat) (w : World) (hG : Glob w) (hx : RGot w a A n c) : Calls Tryd.prog 5 #[.agg (rpvals a A n c)] w (LawRes w) := by
  obtain ⟨W0, hW0⟩ : ∃ W0, W0 = w.alloc (.cells (rpvals a A n c) 26) := ⟨_, rfl⟩
  have v0 : Var W0 w.heap.size 26 (rpvals a A n c) := by rw [hW0]; exact Var.new _ _ _
  have b0 : Below w.heap.size w W0 := by rw [hW0]; exact below_new _
  have x0 := hx.below b0
  have g0 := hG.next b0
  obtain ⟨gr, hgr⟩ : ∃ gr : Bool, gr = false ↔ Mild a := by
    by_cases h : Mild a
    · exact ⟨false, by simp [h]⟩
    · exact ⟨true, by simp [h]⟩
  obtain ⟨ok, hok⟩ := wrOk_of a
  have HGR := Lib.hid (pgreat_any a A n c _ gr W0 x0.rin (Nat.le_refl _) hgr)
  have HOK := Lib.hid hok
  have HW0 := Lib.hid hW0
  clear hW0 hx hG hgr hok
  simp only [rpvals] at v0 HW0 HGR ⊢
  obtain ⟨d0, d1, d2, d3, d4, d5⟩ := v0.cells6
  have z0 := v0.lt
  go_enter Tryd.func5, Tryd.ntmps5
  go_upto_region 1 with fail
  rw [← HW0.out]
  go_wp2_with fail
  refine HGR.out.mono ?_
  rintro e w1 ⟨rfl, b1⟩
  have v1 := v0.below b1 v0.lt
  have x1 := x0.below b1
  have g1 := g0.next b1
  have bb1 := b0.trans (b1.mono b0.size)
  clear d0 d1 d2 d3 d4 d5 z0 v0 x0 g0 HGR HW0 b0 b1
  obtain ⟨d0, d1, d2, d3, d4, d5⟩ := v1.cells6
  have z0 := v1.lt
  rcases gr with _ | _
  · by_cases he : a.e = 0
    · have y0 : (a.e == 0) = true := by rw [beq_iff_eq]; exact he
      clear he
      go_wp2_with fail
      refine (pwakes_any w1 g1).mono ?_
      rintro e w2 ⟨rfl, b2⟩
      have bb2 := bb1.trans (b2.mono bb1.size)
      clear d0 d1 d2 d3 d4 d5 v1 x1
      go_wp2
      go_ret
      exact ⟨rfl, bb2⟩
    · have y0 : (a.e == 0) = false := by rw [beq_eq_false_iff_ne]; exact he
      have HE := Lib.hid he
      have HMAY := Lib.hid (pmay_any a A n c _ ok w1 x1.rin (Nat.le_refl _) x1.fit x1.rows HOK.out)
      simp only [rpvals] at HMAY
      clear he
      go_wp2_with fail
      refine HMAY.out.mono ?_
      rintro e w2 ⟨rfl, b2⟩
      have v2 := v1.below b2 v1.lt
      have x2 := x1.below b2
      have g2 := g1.next b2
      have bb2 := bb1.trans (b2.mono bb1.size)
      clear d0 d1 d2 d3 d4 d5 z0 v1 x1 g1 HMAY bb1 b2
      obtain ⟨d0, d1, d2, d3, d4, d5⟩ := v2.cells6
      have z0 := v2.lt
      rcases ok with _ | _
      · go_wp2_with fail
        refine (pwakes_any w2 g2).mono ?_
        rintro e w3 ⟨rfl, b3⟩
        have bb3 := bb2.trans (b3.mono bb2.size)
        clear d0 d1 d2 d3 d4 d5 v2 x2
        go_wp2
        go_ret
        exact ⟨rfl, bb3⟩
      · have hgood := HOK.out.1 rfl
        have HB := Lib.hid (pbytes_any a A n c _ true w2 g2 x2.rin (Nat.le_refl _) x2.fit x2.rows HOK.out)
        have HONLY := Lib.hid (err_only hgood HE.out)
        have hlen := err_len hgood HE.out
        simp only [rpvals] at HB
        clear hgood
        go_wp2_with fail
        refine HB.out.mono ?_
        rintro e w3 ⟨b3, hcase⟩
        rcases hcase with ⟨-, A3, c3, l3, rfl, hl3, -, -⟩ | ⟨h, -⟩
        rotate_left
        · cases h
        rw [← hl3] at hlen
        obtain ⟨hl2, hl33⟩ := hlen
        have v3 := v2.below b3 v2.lt
        have x3 := x2.below b3
        have g3 := g2.next b3
        have bb3 := bb2.trans (b3.mono bb2.size)
        clear d0 d1 d2 d3 d4 d5 z0 v2 x2 g2 HB bb2 b3 hl3
        obtain ⟨d0, d1, d2, d3, d4, d5⟩ := v3.cells6
        have z0 := v3.lt
        have HSAME := Lib.hid (psame_any a ⟨a.kind, a.e, 0, 0, 0, []⟩ A none n 0 c 0 w3.heap.size true w3 x3.rin (bare_rin _ _ rfl) (Nat.le_refl _) ⟨fun _ => HONLY.out, fun _ => rfl⟩)
        simp only [rpvals] at HSAME
        go_wp2_with fail
        refine HSAME.out.mono ?_
        rintro e w4 ⟨rfl, b4⟩
        have g4 := g3.next b4
        have bb4 := bb3.trans (b4.mono bb3.size)
        have y1 : decide ((2 : Int) ≤ (l3 : Int)) = true := by simp; omega
        have y2 : decide ((l3 : Int) ≤ (3 : Int)) = true := by simp; omega
        clear d0 d1 d2 d3 d4 d5 z0 v3 x3 g3 HSAME bb3 b4
        go_wp2_with fail
        refine (pwakes_any w4 g4).mono ?_
        rintro e w5 ⟨rfl, b5⟩
        have bb5 := bb4.trans (b5.mono bb4.size)
        go_wp2
        go_ret
        exact ⟨rfl, bb5⟩
  · go_wp2_with fail
    refine (pwakes_any w1 g1).mono ?_
    rintro e w2 ⟨rfl, b2⟩
    have bb2 := bb1.trans (b2.mono bb1.size)
    clear d0 d1 d2 d3 d4 d5 v1 x1
    go_wp2
    go_ret
    exact ⟨rfl, bb2⟩
end Go.Proofs.YtplpagnnlggfgaaDoor
