/-
  The walk over EntryOnly: it returns true and turns nothing that was there. Conditions: what is said of the arguments.
-/
import Derived.Test.YtchpemgamgcbkaaEntWakes
import Derived.Test.YtchpemgamgcbkaaRecBackPlain
namespace Go.Proofs.Ytchpemgamgcbkaa
open Go.RowKit

theorem EReadIs.er {s : ByteArray} {x : En} {er : Int} (h : EReadIs s x er) : er = 0 ∨ er = 70 := by
  rcases h with ⟨_, _, h⟩ | ⟨_, _, h⟩
  · exact .inl h
  · exact .inr h
theorem EReadIs.ok {s : ByteArray} {x : En} (h : EReadIs s x 0) : bytesOf s = x.enc ∧ x.Good := by
  rcases h with ⟨h1, h2, _⟩ | ⟨_, _, h⟩
  · exact ⟨h1, h2⟩
  · cases h
/-- Longer by some, or shorter, is none of the same. -/
theorem other_length {s t : ByteArray} {x y : En} (h : EReadIs s x 0) (k : EReadIs t y 0) (hl : s.size ≠ t.size) : x ≠ y := by
  intro e
  have h1 := congrArg List.length h.ok.1
  have h2 := congrArg List.length k.ok.1
  rw [bytesOf_length] at h1 h2
  rw [e] at h1
  omega
/-- An entry's variable with what it points to. -/
structure EV (w : World) (g : Nat) (x : En) (A : Option Addr) (n c : Nat) (D : Option Addr) (m d : Nat) : Prop where
  v : Var w g 32 (evals x A n c D m d)
  i : EIn w w.heap.size x A n c D m d
theorem EV.below {w w' : World} {g : Nat} {x : En} {A D : Option Addr} {n c m d : Nat} (h : EV w g x A n c D m d) (hb : Below w.heap.size w w') : EV w' g x A n c D m d := ⟨h.v.below hb h.v.lt, (h.i.below hb).up hb.size⟩
theorem EV.fresh {w w' : World} {x : En} {A D : Option Addr} {n c m d : Nat} {cs : Array Value} {T : TypeId} (h : EIn w w.heap.size x A n c D m d) (hv : Var w' w.heap.size 32 (evals x A n c D m d)) (ho : Only w.heap.size (w.alloc (.cells cs T)) w') : EV w' w.heap.size x A n c D m d ∧ Below w.heap.size w w' := by
  have hb := Only.below (below_new (w := w) (.cells cs T)) ho (Nat.le_refl _)
  exact ⟨⟨hv, (h.below hb).up hb.size⟩, hb⟩

set_option maxRecDepth 100000 in
set_option maxHeartbeats 2000000 in
theorem only_walk (b : ByteArray) (more : Int) (w : World) (hb : b.size ≤ 9223372036854775807) (hm : 0 ≤ more ∧ more ≤ 255) : Calls Try.prog 4 #[.string b, .int .u8 more] w fun e w' => e = .returned (.bool true) ∧ Below w.heap.size w w' := by
  by_cases h1 : 2000 < b.size
  · have t1 : decide ((2000 : Int) < (b.size : Int)) = true := by simp; omega
    go_enter Try.func4, Try.ntmps4
    go_wp2_with fail
    refine (wakes_any w).mono ?_
    rintro e W1 ⟨rfl, b1⟩
    go_wp2
    go_ret
    exact ⟨rfl, b1⟩
  have t1 : decide ((2000 : Int) < (b.size : Int)) = false := bool_dec _ (by omega)
  by_cases h2 : b.size = 0
  · have t2 : ((b.size : Int) == 0) = true := by rw [beq_iff_eq]; omega
    clear h2
    go_enter Try.func4, Try.ntmps4
    go_wp2_with fail
    refine (wakes_any w).mono ?_
    rintro e W1 ⟨rfl, b1⟩
    go_wp2
    go_ret
    exact ⟨rfl, b1⟩
  have t2 : ((b.size : Int) == 0) = false := by rw [beq_eq_false_iff_ne]; omega
  obtain ⟨c0, hc0⟩ : ∃ c0 : UInt8, (c0.toNat : Int) = more := ⟨UInt8.ofNat more.toNat, by rw [VP.toNat_ofNat (by omega)]; omega⟩
  subst hc0
  obtain ⟨x, er, hx⟩ := eReadIs_of b
  obtain ⟨b2, hb2⟩ : ∃ b2, b2 = b ++ (⟨#[c0]⟩ : ByteArray) := ⟨_, rfl⟩
  obtain ⟨y, fr, hy⟩ := eReadIs_of b2
  obtain ⟨b3, hb3⟩ : ∃ b3, b3 = b.extract 0 (b.size - 1) := ⟨_, rfl⟩
  obtain ⟨z, gr, hz⟩ := eReadIs_of b3
  have s2 : b2.size = b.size + 1 := by rw [hb2, app_size]; rfl
  have s3 : b3.size = b.size - 1 := by rw [hb3, extract_size _ _ _ (by omega) (by omega)]; omega
  have l2 : b2.size ≤ 1000000 := by omega
  have l3 : b3.size ≤ 1000000 := by omega
  have HE := Lib.hid hx.er
  have HF := Lib.hid hy.er
  have HGG := Lib.hid hz.er
  have HXY : Hid (er = 0 → fr = 0 → x ≠ y) := fun h1 h2 => by subst h1 h2; exact other_length hx hy (by omega)
  have HXZ : Hid (er = 0 → gr = 0 → x ≠ z) := fun h1 h2 => by subst h1 h2; exact other_length hx hz (by omega)
  have HX := Lib.hid hx
  have HY := Lib.hid hy
  have HZ := Lib.hid hz
  have HB2 := Lib.hid hb2
  have HB3 := Lib.hid hb3
  clear hx hy hz hb2 hb3 s2 s3
  go_enter Try.func4, Try.ntmps4
  go_wp2_with fail
  refine (eread_any b x er w HX.out (by omega)).mono ?_
  rintro e W1 ⟨A1, n1, c1, D1, m1, d1, rfl, i1, b1⟩
  go_wp2_with (refine wpList_store_var rfl _ _ rfl rfl rfl (Var.new W1 #[.int .i8 0, .int .i64 0, .int .i64 0, .int .i64 0, .bool false, .slice none 0 0, .bool false, .int .i64 0, .int .i64 0, .int .i64 0, .int .i64 0, .int .i64 0, .string ⟨#[]⟩, .string ⟨#[]⟩, .int .i64 0, .int .i64 0, .int .i64 0, .slice none 0 0] 32) rfl (by kernel_rfl) (by simp [Value.oneCell', evals]) ?_; intro W2 v2 o2; obtain ⟨ev2, bb2⟩ := EV.fresh i1 v2 o2; refine wpList_at (C := fun W => EV W W1.heap.size x A1 n1 c1 D1 m1 d1 ∧ Below w.heap.size w W) ⟨ev2, b1.trans (bb2.mono b1.size)⟩ ?_; clear v2 o2 ev2 bb2 i1; rintro W3 ⟨ev3, b3'⟩; have hcv := str_now (P := Try.prog) (l := [c0]) (Seen.new W3 (cells [c0]) 5) 42 9 5 1 1 rfl Try.underlying42 Try.underlying5 Try.underlying9; simp only [cells, List.map_cons, List.map_nil] at hcv)
  rw [← HB2.out]
  have bw3 := b3'.alloc b3'.size (.cells #[.int .u8 (c0.toNat : Int)] 5)
  have ex3 := ev3.below (below_new (.cells #[.int .u8 (c0.toNat : Int)] 5))
  clear b3' ev3 hcv b1
  refine (eread_any b2 y fr _ HY.out l2).mono ?_
  rintro e W4 ⟨A2, n2, c2, D2, m2, d2, rfl, i4, b4⟩
  have bw4 := bw3.trans (b4.mono bw3.size)
  have ex4 := ex3.below b4
  clear bw3 ex3 b4
  have hsl : (b.size : Int) - 1 = ((b.size - 1 : Nat) : Int) := by omega
  have hn1 : b.size - 1 ≤ b.size := by omega
  go_wp2_with (refine wpList_store_var rfl _ _ rfl rfl rfl (Var.new W4 #[.int .i8 0, .int .i64 0, .int .i64 0, .int .i64 0, .bool false, .slice none 0 0, .bool false, .int .i64 0, .int .i64 0, .int .i64 0, .int .i64 0, .int .i64 0, .string ⟨#[]⟩, .string ⟨#[]⟩, .int .i64 0, .int .i64 0, .int .i64 0, .slice none 0 0] 32) rfl (by kernel_rfl) (by simp [Value.oneCell', evals]) ?_; intro W5 v5 o5; obtain ⟨ev5, bb5⟩ := EV.fresh i4 v5 o5; refine wpList_at (C := fun W => EV W W1.heap.size x A1 n1 c1 D1 m1 d1 ∧ EV W W4.heap.size y A2 n2 c2 D2 m2 d2 ∧ Below w.heap.size w W) ⟨ex4.below bb5, ev5, bw4.trans (bb5.mono bw4.size)⟩ ?_; clear v5 o5 ev5 bb5 i4 ex4 bw4; rintro W6 ⟨ex6, ey6, bw6⟩)
  rw [← HB3.out]
  refine (eread_any b3 z gr _ HZ.out l3).mono ?_
  rintro e W7 ⟨A3, n3, c3, D3, m3, d3, rfl, i7, b7⟩
  have bw7 := bw6.trans (b7.mono bw6.size)
  have ex7 := ex6.below b7
  have ey7 := ey6.below b7
  clear bw6 ex6 ey6 b7
  have y0 : ((0 : Int) != 0) = false := by decide
  have y70 : ((70 : Int) != 0) = true := by decide
  go_upto_region 6 with (refine wpList_store_var rfl _ _ rfl rfl rfl (Var.new W7 #[.int .i8 0, .int .i64 0, .int .i64 0, .int .i64 0, .bool false, .slice none 0 0, .bool false, .int .i64 0, .int .i64 0, .int .i64 0, .int .i64 0, .int .i64 0, .string ⟨#[]⟩, .string ⟨#[]⟩, .int .i64 0, .int .i64 0, .int .i64 0, .slice none 0 0] 32) rfl (by kernel_rfl) (by simp [Value.oneCell', evals]) ?_; intro W8 v8 o8; obtain ⟨ev8, bb8⟩ := EV.fresh i7 v8 o8; refine wpList_at (C := fun W => EV W W1.heap.size x A1 n1 c1 D1 m1 d1 ∧ EV W W4.heap.size y A2 n2 c2 D2 m2 d2 ∧ EV W W7.heap.size z A3 n3 c3 D3 m3 d3 ∧ Below w.heap.size w W) ⟨ex7.below bb8, ey7.below bb8, ev8, bw7.trans (bb8.mono bw7.size)⟩ ?_; clear v8 o8 ev8 bb8 i7 ex7 ey7 bw7; rintro W8 ⟨ex8, ey8, ez8, bw8⟩)
  rcases HE.out with rfl | rfl
  · rcases HF.out with rfl | rfl
    · go_wp2_with (first | refine wpList_load_want (by rfl) _ rfl Try.underlying32 rfl rfl ex8.v (by simp only [evals]; kernel_rfl) ?_ | refine wpList_load_want (by rfl) _ rfl Try.underlying32 rfl rfl ey8.v (by simp only [evals]; kernel_rfl) ?_)
      refine (esame_any x y A1 A2 D1 D2 n1 n2 c1 c2 m1 m2 d1 d2 _ false _ ex8.i ey8.i (Nat.le_refl _) ⟨by simp, fun h => absurd h (HXY.out (by first | rfl | trivial) (by first | rfl | trivial))⟩).mono ?_
      rintro e Wn ⟨rfl, bn⟩
      have ex8 := ex8.below bn
      have ey8 := ey8.below bn
      have ez8 := ez8.below bn
      have bw8 := bw8.trans (bn.mono bw8.size)
      clear bn
      rcases HGG.out with rfl | rfl
      · go_wp2_with (first | refine wpList_load_want (by rfl) _ rfl Try.underlying32 rfl rfl ex8.v (by simp only [evals]; kernel_rfl) ?_ | refine wpList_load_want (by rfl) _ rfl Try.underlying32 rfl rfl ez8.v (by simp only [evals]; kernel_rfl) ?_)
        refine (esame_any x z A1 A3 D1 D3 n1 n3 c1 c3 m1 m3 d1 d3 _ false _ ex8.i ez8.i (Nat.le_refl _) ⟨by simp, fun h => absurd h (HXZ.out (by first | rfl | trivial) (by first | rfl | trivial))⟩).mono ?_
        rintro e Wn ⟨rfl, bn⟩
        have ex8 := ex8.below bn
        have ey8 := ey8.below bn
        have ez8 := ez8.below bn
        have bw8 := bw8.trans (bn.mono bw8.size)
        clear bn
        go_wp2_with fail
        refine (wakes_any _).mono ?_
        rintro e W9 ⟨rfl, b9⟩
        have bf := bw8.trans (b9.mono bw8.size)
        clear bw8 b9
        go_wp2
        go_ret
        exact ⟨rfl, bf⟩
      · go_wp2_with fail
        refine (wakes_any _).mono ?_
        rintro e W9 ⟨rfl, b9⟩
        have bf := bw8.trans (b9.mono bw8.size)
        clear bw8 b9
        go_wp2
        go_ret
        exact ⟨rfl, bf⟩
    · rcases HGG.out with rfl | rfl
      · go_wp2_with (first | refine wpList_load_want (by rfl) _ rfl Try.underlying32 rfl rfl ex8.v (by simp only [evals]; kernel_rfl) ?_ | refine wpList_load_want (by rfl) _ rfl Try.underlying32 rfl rfl ez8.v (by simp only [evals]; kernel_rfl) ?_)
        refine (esame_any x z A1 A3 D1 D3 n1 n3 c1 c3 m1 m3 d1 d3 _ false _ ex8.i ez8.i (Nat.le_refl _) ⟨by simp, fun h => absurd h (HXZ.out (by first | rfl | trivial) (by first | rfl | trivial))⟩).mono ?_
        rintro e Wn ⟨rfl, bn⟩
        have ex8 := ex8.below bn
        have ey8 := ey8.below bn
        have ez8 := ez8.below bn
        have bw8 := bw8.trans (bn.mono bw8.size)
        clear bn
        go_wp2_with fail
        refine (wakes_any _).mono ?_
        rintro e W9 ⟨rfl, b9⟩
        have bf := bw8.trans (b9.mono bw8.size)
        clear bw8 b9
        go_wp2
        go_ret
        exact ⟨rfl, bf⟩
      · go_wp2_with fail
        refine (wakes_any _).mono ?_
        rintro e W9 ⟨rfl, b9⟩
        have bf := bw8.trans (b9.mono bw8.size)
        clear bw8 b9
        go_wp2
        go_ret
        exact ⟨rfl, bf⟩
  · go_wp2_with fail
    refine (wakes_any _).mono ?_
    rintro e W9 ⟨rfl, b9⟩
    have bf := bw8.trans (b9.mono bw8.size)
    clear bw8 b9
    go_wp2
    go_ret
    exact ⟨rfl, bf⟩
end Go.Proofs.Ytchpemgamgcbkaa
