/-
  The walk over EntryBack: it returns true and turns nothing that was there. Conditions: what is said of the arguments.
-/
import Derived.Test.YtchpemgamgcbkaaEntOnlyWalk
import Derived.Test.YtchpemgamgcbkaaEntGreat
import Derived.Deep.DeepCutAuto
namespace Go.Proofs.Ytchpemgamgcbkaa
open Go.RowKit

theorem EBytesIs.er {x : En} {s : ByteArray} {er : Int} (h : EBytesIs x s er) : er = 0 ∨ er = 2 := by
  rcases h with ⟨_, _, h⟩ | ⟨_, _, h⟩
  · exact .inl h
  · exact .inr h
theorem EBytesIs.ok {x : En} {s : ByteArray} (h : EBytesIs x s 0) : x.Good ∧ EReadIs s x 0 ∧ s.size ≤ 171 := by
  rcases h with ⟨h1, h2, _⟩ | ⟨_, _, h⟩
  · refine ⟨h1, .inl ⟨by rw [h2, bytesOf_mk], h1, rfl⟩, ?_⟩
    rw [h2, ← bytesOf_length, bytesOf_mk]
    exact En.enc_le h1
  · cases h
theorem EReadIs.back {x : En} {s : ByteArray} (h : EReadIs s x 0) : EBytesIs x s 0 := .inl ⟨h.ok.2, string_of h.ok.1, rfl⟩

set_option maxRecDepth 100000 in
set_option maxHeartbeats 2000000 in
theorem back_walk (x : En) (A D : Option Addr) (n c m d : Nat) (b : ByteArray) (w : World) (hx : EIn w w.heap.size x A n c D m d) (hb : b.size ≤ 9223372036854775807) : Calls Try.prog 3 #[.agg (evals x A n c D m d), .string b] w fun e w' => e = .returned (.bool true) ∧ Below w.heap.size w w' := by
  obtain ⟨W0, hW0⟩ : ∃ W0, W0 = w.alloc (.cells (evals x A n c D m d) 32) := ⟨_, rfl⟩
  have b0 : Below w.heap.size w W0 := by rw [hW0]; exact below_new _
  have ex0 : EV W0 w.heap.size x A n c D m d := ⟨by rw [hW0]; exact Var.new _ _ _, (hx.below b0).up b0.size⟩
  have HW0 := Lib.hid hW0
  have hW0' := hW0
  clear hW0 hx
  obtain ⟨s, er, hs⟩ := eBytesIs_of x
  have HS := Lib.hid hs
  have HER := Lib.hid hs.er
  clear hs
  simp only [evals] at hW0' ⊢
  have HW := Lib.hid hW0'
  clear hW0' HW0
  go_enter Try.func3, Try.ntmps3
  go_upto_region 1 with fail
  rw [← HW.out]
  go_wp2_with (refine wpList_load_var rfl _ rfl Try.underlying32 rfl rfl ex0.v (by simp only [evals]; kernel_rfl) ?_)
  refine (egreat_any x A D n c m d _ W0 ex0.i (Nat.le_refl _)).mono ?_
  rintro e W1 ⟨gr, rfl, hb1⟩
  have b1 := b0.trans (hb1.mono b0.size)
  have ex1 := ex0.below hb1
  clear b0 ex0 hb1 HW
  cases gr with
  | true =>
    go_wp2_with fail
    refine (wakes_any _).mono ?_
    rintro e W9 ⟨rfl, b9⟩
    have bf := b1.trans (b9.mono b1.size)
    go_wp2
    go_ret
    exact ⟨rfl, bf⟩
  | false =>
    by_cases hbig : 2000 < b.size
    · have t1 : decide ((2000 : Int) < (b.size : Int)) = true := by simp; omega
      go_wp2_with fail
      refine (wakes_any _).mono ?_
      rintro e W9 ⟨rfl, b9⟩
      have bf := b1.trans (b9.mono b1.size)
      go_wp2
      go_ret
      exact ⟨rfl, bf⟩
    have t1 : decide ((2000 : Int) < (b.size : Int)) = false := bool_dec _ (by omega)
    go_wp2_with (refine wpList_load_var rfl _ rfl Try.underlying32 rfl rfl ex1.v (by simp only [evals]; kernel_rfl) ?_)
    refine (ebytes_all x A D n c m d _ s er W1 HS.out ex1.i (Nat.le_refl _)).mono ?_
    rintro e W2 ⟨rfl, hb2⟩
    have b2 := b1.trans (hb2.mono b1.size)
    have ex2 := ex1.below hb2
    clear b1 ex1 hb2
    go_upto_if 27 with fail
    go_cut [] (fun wx => Below w.heap.size w wx)
    case first =>
      rcases HER.out with rfl | rfl
      · have hgood := HS.out.ok.1
        have HRD := Lib.hid HS.out.ok.2.1
        have hsz := HS.out.ok.2.2
        have HG := Lib.hid hgood
        have y0 : ((0 : Int) != 0) = false := by decide
        have t9 : decide ((1024 : Int) < (s.size : Int)) = false := bool_dec _ (by omega)
        clear hgood HS HER
        go_wp2_with fail
        refine (eread_any s x 0 W2 HRD.out (by omega)).mono ?_
        rintro e W3 ⟨A2, n2, c2, D2, m2, d2, rfl, i3, b3⟩
        have bb3 := b2.trans (b3.mono b2.size)
        have ex3 := ex2.below b3
        clear b2 ex2 b3 HRD
        go_upto_region 6 with (refine wpList_store_var rfl _ _ rfl rfl rfl (Var.new W3 #[.int .i8 0, .int .i64 0, .int .i64 0, .int .i64 0, .bool false, .slice none 0 0, .bool false, .int .i64 0, .int .i64 0, .int .i64 0, .int .i64 0, .int .i64 0, .string ⟨#[]⟩, .string ⟨#[]⟩, .int .i64 0, .int .i64 0, .int .i64 0, .slice none 0 0] 32) rfl (by kernel_rfl) (by simp [Value.oneCell', evals]) ?_; intro W4 v4 o4; obtain ⟨ev4, bb4⟩ := EV.fresh i3 v4 o4; refine wpList_at (C := fun W => EV W w.heap.size x A n c D m d ∧ EV W W3.heap.size x A2 n2 c2 D2 m2 d2 ∧ Below w.heap.size w W) ⟨ex3.below bb4, ev4, bb3.trans (bb4.mono bb3.size)⟩ ?_; clear v4 o4 ev4 bb4 i3 ex3 bb3; rintro W5 ⟨ex5, ey5, b5⟩)
        go_wp2_with (first | refine wpList_load_want (by rfl) _ rfl Try.underlying32 rfl rfl ex5.v (by simp only [evals]; kernel_rfl) ?_ | refine wpList_load_want (by rfl) _ rfl Try.underlying32 rfl rfl ey5.v (by simp only [evals]; kernel_rfl) ?_)
        refine (esame_any x x A A2 D D2 n n2 c c2 m m2 d d2 _ true _ ex5.i ey5.i (Nat.le_refl _) ⟨fun _ => rfl, fun _ => rfl⟩).mono ?_
        rintro e W6 ⟨rfl, b6⟩
        have ex6 := ex5.below b6
        have bb6 := b5.trans (b6.mono b5.size)
        clear ex5 ey5 b5 b6
        go_wp2_with (refine wpList_load_want (by rfl) _ rfl Try.underlying32 rfl rfl ex6.v (by simp only [evals]; kernel_rfl) ?_)
        refine (emay_any x A D n c m d _ true _ ex6.i (Nat.le_refl _) ⟨fun _ => HG.out, fun _ => rfl⟩).mono ?_
        rintro e W7 ⟨rfl, b7⟩
        have bb7 := bb6.trans (b7.mono bb6.size)
        clear ex6 bb6 b7
        go_wp2_with fail
        go_meet
        exact bb7
      · have bb := b2
        clear HS ex2 b2
        go_wp2_with fail
        go_meet
        exact bb
    case rest =>
      clear b2 ex2 HS HER
      have bc : Below w.heap.size w wc := hcut
      clear hcut
      obtain ⟨y, fr, hy⟩ := eReadIs_of b
      have HY := Lib.hid hy
      have HFR := Lib.hid hy.er
      clear hy
      go_wp2_with fail
      refine (eread_any b y fr wc HY.out (by omega)).mono ?_
      rintro e W3 ⟨A2, n2, c2, D2, m2, d2, rfl, i3, b3⟩
      have bb3 := bc.trans (b3.mono bc.size)
      clear bc b3
      go_upto_region 9 with (refine wpList_store_var rfl _ _ rfl rfl rfl (Var.new W3 #[.int .i8 0, .int .i64 0, .int .i64 0, .int .i64 0, .bool false, .slice none 0 0, .bool false, .int .i64 0, .int .i64 0, .int .i64 0, .int .i64 0, .int .i64 0, .string ⟨#[]⟩, .string ⟨#[]⟩, .int .i64 0, .int .i64 0, .int .i64 0, .slice none 0 0] 32) rfl (by kernel_rfl) (by simp [Value.oneCell', evals]) ?_; intro W4 v4 o4; obtain ⟨ev4, bb4⟩ := EV.fresh i3 v4 o4; refine wpList_at (C := fun W => EV W W3.heap.size y A2 n2 c2 D2 m2 d2 ∧ Below w.heap.size w W) ⟨ev4, bb3.trans (bb4.mono bb3.size)⟩ ?_; clear v4 o4 ev4 bb4 i3 bb3; rintro W5 ⟨ey5, b5⟩)
      rcases HFR.out with rfl | rfl
      · have HBK := Lib.hid HY.out.back
        have HG := Lib.hid HY.out.ok.2
        have y0 : ((0 : Int) != 0) = false := by decide
        have e0 : (b.toList == b.toList) = true := beq_self_eq_true _
        clear HY HFR
        go_wp2_with (refine wpList_load_var rfl _ rfl Try.underlying32 rfl rfl ey5.v (by simp only [evals]; kernel_rfl) ?_)
        refine (ebytes_all y A2 D2 n2 c2 m2 d2 _ b 0 _ HBK.out ey5.i (Nat.le_refl _)).mono ?_
        rintro e W6 ⟨rfl, b6⟩
        have ey6 := ey5.below b6
        have bb6 := b5.trans (b6.mono b5.size)
        clear ey5 b5 b6
        go_wp2_with (refine wpList_load_want (by rfl) _ rfl Try.underlying32 rfl rfl ey6.v (by simp only [evals]; kernel_rfl) ?_)
        refine (emay_any y A2 D2 n2 c2 m2 d2 _ true _ ey6.i (Nat.le_refl _) ⟨fun _ => HG.out, fun _ => rfl⟩).mono ?_
        rintro e W7 ⟨rfl, b7⟩
        have bb7 := bb6.trans (b7.mono bb6.size)
        clear ey6 bb6 b7
        go_wp2_with fail
        refine (wakes_any _).mono ?_
        rintro e W9 ⟨rfl, b9⟩
        have bf := bb7.trans (b9.mono bb7.size)
        go_wp2
        go_ret
        exact ⟨rfl, bf⟩
      · have y0 : ((70 : Int) != 0) = true := by decide
        clear HY HFR ey5
        go_wp2_with fail
        refine (wakes_any _).mono ?_
        rintro e W9 ⟨rfl, b9⟩
        have bf := b5.trans (b9.mono b5.size)
        go_wp2
        go_ret
        exact ⟨rfl, bf⟩
end Go.Proofs.Ytchpemgamgcbkaa
