/-
  Contracts of varint's add and Put: what each returns and what it does to memory. Conditions: those that each theorem names.
-/
import Derived.Test.YtchpemgamgcbkaaVarWalkA
namespace Go.Proofs.Ytchpemgamgcbkaa
open Go.RowKit

theorem u8_info : (Try.prog.info? 5).map (fun i => (i.zero, i.size, i.bytes)) = some (some (.int .u8 0), 1, 1) := by kernel_rfl

/-- The byte that is not the last. -/
def mid (m : Nat) : UInt8 := UInt8.ofNat (128 + m % 128)
theorem mid_val (m : Nat) : ((mid m).toNat : Int) = 128 + (m : Int) % 128 := by
  unfold mid
  rw [VP.toNat_ofNat (by omega)]
  omega
theorem add_last {w' : World} {base : Nat} {e : TypeId} {v : Value} (ys : List UInt8) (m : Nat) (h : m < 128) (hown : w'.ownsRow base e 1 v (ys.length + 1) (cells ys ++ [.int .u8 (m : Int)])) :
    w'.ownsRow base e 1 v (ys ++ VP.enc m).length (cells (ys ++ VP.enc m)) := by
  rw [VP.enc_small h, cells_append]
  simpa [cells, VP.toNat_ofNat (show m < 256 by omega)] using hown
theorem add_more {w' : World} {base : Nat} {e : TypeId} {v : Value} (ys : List UInt8) (m : Nat) (hown : w'.ownsRow base e 1 v (ys.length + 1) (cells ys ++ [.int .u8 (128 + (m : Int) % 128)])) :
    w'.ownsRow base e 1 v (ys ++ [mid m]).length (cells (ys ++ [mid m])) := by
  rw [cells_append]
  simpa [cells, mid_val] using hown
theorem add_eq {T : List UInt8} (ys : List UInt8) (m : Nat) (h : ¬ m < 128) (he : ys ++ VP.enc m = T) : (ys ++ [mid m]) ++ VP.enc (m / 128) = T := by
  rw [← he, VP.enc_great h]; simp [mid]
theorem add_len {T : List UInt8} (ys : List UInt8) (m : Nat) (h : ¬ m < 128) (he : ys ++ VP.enc m = T) : (ys ++ [mid m]).length ≤ T.length := by
  rw [← add_eq ys m h he, List.length_append (bs := VP.enc _)]; omega

set_option maxRecDepth 100000 in
set_option maxHeartbeats 400000 in
theorem add_any (base : Nat) (v : Value) (xs : List UInt8) (n : Nat) (w : World) (hb : base ≤ w.heap.size)
    (hv : w.ownsRow base 5 1 v xs.length (cells xs)) (hx : xs.length ≤ 1000000) (hn : n ≤ 1099511627776) :
    Calls Try.prog 66 #[v, .int .i64 (n : Int)] w fun e w' =>
      ∃ v', e = .returned v' ∧ w'.ownsRow base 5 1 v' (xs ++ VP.enc n).length (cells (xs ++ VP.enc n)) ∧ Below base w w' := by
  obtain ⟨i0, hi0, hz0, hz1, hz2⟩ := info_parts u8_info
  go_enter Try.func66, Try.ntmps66
  go_wp2
  go_loopw [0, 1] (fun v x wr => ∃ (m : Nat) (ys : List UInt8), m ≤ n ∧ x = .int .i64 m ∧ ys ++ VP.enc m = xs ++ VP.enc n ∧ ys.length ≤ (xs ++ VP.enc n).length ∧ wr.ownsRow base 5 1 v ys.length (cells ys) ∧ Below base w wr) (fun _ x _ => (intOf x).toNat)
  case atStart => exact ⟨n, xs, Nat.le_refl _, rfl, rfl, by simp, hv, Below.refl _ _⟩
  case round =>
    obtain ⟨m, ys, hm, rfl, he, hl, hown, hbw⟩ := hrel
    have HE := Lib.hid he
    clear he
    have HL : Hid ((xs ++ VP.enc n).length ≤ 1000006) := by have := VP.enc_six hn; show (xs ++ VP.enc n).length ≤ 1000006; simp; omega
    have HX := Lib.hid hx
    have HY := Lib.hid hl
    clear hx hl
    by_cases hlt : m < 128
    · have hlt' : (m : Int) < 128 := by omega
      go_wp2_with (at_builtin; refine wpList_append_own _ rfl _ _ 42 rfl base 5 i0 (.int .u8 0) 1 1 Try.underlying42 hi0 hz0 hz1 hz2 rfl (by decide) _ _ _ rfl (hown.alloc _) ⟨wr.heap.size, 0, none⟩ 1 1 [.int .u8 (m : Int)] rfl rfl ?c1 ?c2 ?c3 ?c4 ?c5 ?_)
      case c1 => exact cell_one_new _ _ _
      case c2 => intro u hu; simp at hu; subst hu; rfl
      case c3 => have := HL.out; have := HY.out; unfold maxLen; omega
      case c4 => have := HL.out; have := HY.out; omega
      case c5 => have := hbw.size; simp; omega
      intro v' w1 hown' hgrow _
      have hbw1 := (hbw.alloc (by have := hbw.size; omega) (.cells #[.int .u8 (m : Int)] 5)).grown hgrow (by have := hbw.size; simp; omega) (fun k hk => (hown.lt k hk).1)
      go_wp2
      go_ret
      refine ⟨v', rfl, ?_, hbw1⟩
      rw [← HE.out]
      exact add_last ys m hlt hown'
    · have hlow : bits .and .i64 (m : Int) 127 = (m : Int) % 128 := by rw [low_i64 m (by omega)]; omega
      have hhigh : bits .or .i64 ((m : Int) % 128) 128 = 128 + (m : Int) % 128 := by have := high_i64 (m % 128) (by omega); rw [show ((m : Int) % 128) = ((m % 128 : Nat) : Int) by omega, this]; omega
      go_wp2_with (at_builtin; refine wpList_append_own _ rfl _ _ 42 rfl base 5 i0 (.int .u8 0) 1 1 Try.underlying42 hi0 hz0 hz1 hz2 rfl (by decide) _ _ _ rfl (hown.alloc _) ⟨wr.heap.size, 0, none⟩ 1 1 [.int .u8 (128 + (m : Int) % 128)] rfl rfl ?c1 ?c2 ?c3 ?c4 ?c5 ?_)
      case c1 => exact cell_one_new _ _ _
      case c2 => intro u hu; simp at hu; subst hu; rfl
      case c3 => have := HL.out; have := HY.out; unfold maxLen; omega
      case c4 => have := HL.out; have := HY.out; omega
      case c5 => have := hbw.size; simp; omega
      intro v' w1 hown' hgrow _
      have hbw1 := (hbw.alloc (by have := hbw.size; omega) (.cells #[.int .u8 (128 + (m : Int) % 128)] 5)).grown hgrow (by have := hbw.size; simp; omega) (fun k hk => (hown.lt k hk).1)
      have hown2 := add_more ys m hown'
      have HE2 := Lib.hid (add_eq ys m hlt HE.out)
      have HL2 := Lib.hid (add_len ys m hlt HE.out)
      clear hlow hhigh hgrow hbw hown hown' HE HX HY
      go_wp2
      go_roundw
      case rel => exact ⟨m / 128, _, by omega, by go_num, HE2.out, HL2.out, hown2, hbw1⟩
      case measure => simp [intOf]; omega

theorem put_no (v : Value) (n : Int) (w : World) (h : n < 0 ∨ 1099511627776 < n) :
    Calls Try.prog 48 #[v, .int .i64 n] w fun e w' => e = .returned (.tuple #[.slice none 0 0, .int .i64 2]) ∧ w = w' := by
  go_enter Try.func48, Try.ntmps48
  go_wp2_with (go_at_call 65; refine (isNumber_no _ _ h).mono ?_; rintro e w' ⟨rfl, rfl⟩)
  go_ret2
  exact ⟨rfl, rfl⟩

theorem below_grown {w w' : World} (h : w.grownBy w' none) : Below w.heap.size w w' := (Below.refl _ _).grown h (Nat.le_refl _) (fun k hk => by cases hk)

set_option maxRecDepth 100000 in
set_option maxHeartbeats 400000 in
theorem put_yes (A : Option Addr) (c : Nat) (xs : List UInt8) (n : Nat) (w : World) (hs : Seen w w.heap.size A (cells xs)) (hx : xs.length ≤ 1000000) (hn : n ≤ 1099511627776) :
    Calls Try.prog 48 #[.slice A xs.length c, .int .i64 (n : Int)] w fun e w' =>
      ∃ v, e = .returned (.tuple #[v, .int .i64 0]) ∧ w'.ownsRow w.heap.size 5 1 v (xs ++ VP.enc n).length (cells (xs ++ VP.enc n)) ∧ Below w.heap.size w w' := by
  obtain ⟨i0, hi0, hz0, hz1, hz2⟩ := info_parts u8_info
  have h6 := VP.enc_six hn
  go_enter Try.func48, Try.ntmps48
  go_wp2_with (first
    | (go_at_call 65; refine (isNumber_yes _ _ (by omega) (by omega)).mono ?_; rintro e w' ⟨rfl, rfl⟩)
    | (go_at_call 61; refine (len_yes n _ hn).mono ?_; rintro e w' ⟨rfl, rfl⟩)
    | (at_make; refine wpList_make_own _ rfl _ _ 42 rfl w.heap.size 5 i0 (.int .u8 0) 1 Try.underlying42 hi0 hz0 hz1 _ _ _ (xs.length + (VP.enc n).length) rfl rfl (by omega) ?c1 ?c2 ?c3 ?_))
  case c1 => rw [hz2]; omega
  case c2 => unfold maxLen; omega
  case c3 => exact Nat.le_refl _
  intro w1 hown1 hg1
  have hb1 := below_grown hg1
  go_wp2_with (at_builtin; refine wpList_append_seen rfl _ _ 42 rfl w.heap.size 5 i0 (.int .u8 0) 1 Try.underlying42 hi0 hz0 hz1 hz2 rfl _ _ _ rfl hown1 w.heap.size A xs.length c (cells xs) rfl (cells_length _) (hs.below hb1) (cells_one _) ?c4 ?c5 ?c6 ?_)
  case c4 => unfold maxLen; omega
  case c5 => omega
  case c6 => exact hb1.size
  intro v2 w2 hown2 hb2
  have hsz := hb2.size
  have hsz1 := hb1.size
  go_wp2_with (go_at_call 66; refine (add_any w.heap.size _ xs n _ (by omega) hown2 hx hn).mono ?_)
  rintro e w3 ⟨v3, rfl, hown3, hb3⟩
  go_wp2
  go_ret2
  exact ⟨v3, rfl, hown3, (hb1.trans hb2).trans hb3⟩

end Go.Proofs.Ytchpemgamgcbkaa
