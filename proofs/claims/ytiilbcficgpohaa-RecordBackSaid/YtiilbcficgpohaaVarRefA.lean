/-
  Contracts of the document's own answers for varint (rovingref01's Put and Len): what each returns and what it does to memory. Conditions: those that each theorem names.
-/
import Derived.Test.YtiilbcficgpohaaVarWalkD
namespace Go.Proofs.Ytiilbcficgpohaa
open Go.RowKit

theorem ref_put_no (v : Value) (n : Int) (w : World) (h : n < 0 ∨ 1099511627776 < n) :
    Calls Try.prog 47 #[v, .int .i64 n] w fun e w' => e = .returned (.tuple #[.slice none 0 0, .int .i64 2]) ∧ w = w' := by
  rcases h with h | h
  all_goals
    go_enter Try.func47, Try.ntmps47
    go_wp2
    go_ret2
    exact ⟨rfl, rfl⟩

set_option maxRecDepth 100000 in
set_option maxHeartbeats 1000000 in
theorem ref_put (A : Option Addr) (c : Nat) (bs : List UInt8) (lb n : Nat) (w : World) (hlb : lb = bs.length) (hs : Seen w w.heap.size A (cells bs)) (hx : lb ≤ 1000000) (hn : n ≤ 1099511627776) :
    Calls Try.prog 47 #[.slice A lb c, .int .i64 (n : Int)] w fun e w' =>
      ∃ v, e = .returned (.tuple #[v, .int .i64 0]) ∧ w'.ownsRow w.heap.size 5 1 v (bs ++ VP.enc n).length (cells (bs ++ VP.enc n)) ∧ Below w.heap.size w w' := by
  obtain ⟨i0, hi0, hz0, hz1, hz2⟩ := info_parts u8_info
  have HB := Lib.hid hlb
  clear hlb
  go_enter Try.func47, Try.ntmps47
  go_wp2_with (at_builtin; refine wpList_append_seen rfl _ _ 53 rfl w.heap.size 5 i0 (.int .u8 0) 1 Try.underlying53 hi0 hz0 hz1 hz2 rfl _ 0 [] rfl (World.ownsRow_nil w _ _ _) w.heap.size A lb c (cells bs) rfl ?c1 hs (cells_one _) ?c2 ?c3 ?c4 ?_)
  case c1 => rw [cells_length]; exact HB.out.symm
  case c2 => unfold maxLen; omega
  case c3 => omega
  case c4 => exact Nat.le_refl _
  intro v1 w1 hown1 hb1
  rw [HB.out] at hown1
  have hbb : bs.length ≤ 1000000 := by have := HB.out; omega
  have HBB := Lib.hid hbb
  clear hbb hs
  go_wp2
  go_loopw [6, 1] (fun v x wr => ∃ (m : Nat) (ys : List UInt8), m ≤ n ∧ x = .int .i64 m ∧ ys ++ VP.enc m = bs ++ VP.enc n ∧ ys.length ≤ (bs ++ VP.enc n).length ∧ wr.ownsRow w.heap.size 5 1 v ys.length (cells ys) ∧ Below w.heap.size w wr) (fun _ x _ => (intOf x).toNat)
  case atStart => exact ⟨n, bs, Nat.le_refl _, rfl, rfl, by simp, hown1, hb1⟩
  case round =>
    obtain ⟨m, ys, hm, rfl, he, hl, hown, hbw⟩ := hrel
    have HE := Lib.hid he
    clear he
    have HL : Hid ((bs ++ VP.enc n).length ≤ 1000006) := by have := VP.enc_six hn; have := HBB.out; show (bs ++ VP.enc n).length ≤ 1000006; simp; omega
    have HY := Lib.hid hl
    clear hl hown1
    by_cases hlt : m < 128
    · have hlt' : (m : Int) < 128 := by omega
      go_wp2_with (at_builtin; refine wpList_append_own _ rfl _ _ 53 rfl w.heap.size 5 i0 (.int .u8 0) 1 1 Try.underlying53 hi0 hz0 hz1 hz2 rfl (by decide) _ _ _ rfl (hown.alloc _) ⟨wr.heap.size, 0, none⟩ 1 1 [.int .u8 (m : Int)] rfl rfl ?c1 ?c2 ?c3 ?c4 ?c5 ?_)
      case c1 => exact cell_one_new _ _ _
      case c2 => intro u hu; simp at hu; subst hu; rfl
      case c3 => have := HL.out; have := HY.out; unfold maxLen; omega
      case c4 => have := HL.out; have := HY.out; omega
      case c5 => have := hbw.size; simp; omega
      intro v' w1 hown' hgrow _
      have hbw1 := (hbw.alloc (by have := hbw.size; omega) (.cells #[.int .u8 (m : Int)] 5)).grown hgrow (by have := hbw.size; simp; omega) (fun k hk => (hown.lt k hk).1)
      go_wp2
      go_ret2
      refine ⟨v', rfl, ?_, hbw1⟩
      rw [← HE.out]
      exact add_last ys m hlt hown'
    · go_wp2_with (at_builtin; refine wpList_append_own _ rfl _ _ 53 rfl w.heap.size 5 i0 (.int .u8 0) 1 1 Try.underlying53 hi0 hz0 hz1 hz2 rfl (by decide) _ _ _ rfl (hown.alloc _) ⟨wr.heap.size, 0, none⟩ 1 1 [.int .u8 (128 + (m : Int) % 128)] rfl rfl ?c1 ?c2 ?c3 ?c4 ?c5 ?_)
      case c1 => exact cell_one_new _ _ _
      case c2 => intro u hu; simp at hu; subst hu; rfl
      case c3 => have := HL.out; have := HY.out; unfold maxLen; omega
      case c4 => have := HL.out; have := HY.out; omega
      case c5 => have := hbw.size; simp; omega
      intro v' w1 hown' hgrow _
      have hbw1 := (hbw.alloc (by have := hbw.size; omega) (.cells #[.int .u8 (128 + (m : Int) % 128)] 5)).grown hgrow (by have := hbw.size; simp; omega) (fun k hk => (hown.lt k hk).1)
      have hown2 := add_more ys m hown'
      have HE2 := Lib.hid (add_eq ys m hlt HE.out)
      have HL2 := Lib.hid (add_len ys m hlt HE.out)
      clear hgrow hbw hown hown' HE HY
      go_wp2
      go_roundw
      case rel => exact ⟨m / 128, _, by omega, by go_num, HE2.out, HL2.out, hown2, hbw1⟩
      case measure => simp [intOf]; omega

/-- .. the lengths under names of their own. -/
theorem ref_put_yes (A : Option Addr) (c : Nat) (bs : List UInt8) (lb n : Nat) (xs : List UInt8) (lx : Nat) (hlb : lb = bs.length) (hxs : xs = bs ++ VP.enc n) (hlx : lx = xs.length) (w : World) (hs : Seen w w.heap.size A (cells bs)) (hx : lb ≤ 1000000) (hn : n ≤ 1099511627776) :
    Calls Try.prog 47 #[.slice A lb c, .int .i64 (n : Int)] w fun e w' =>
      ∃ A' c', e = .returned (.tuple #[.slice A' lx c', .int .i64 0]) ∧ Seen w' w'.heap.size A' (cells xs) ∧ lx ≤ c' ∧ Below w.heap.size w w' := by
  subst hxs hlx
  refine (ref_put A c bs lb n w hlb hs hx hn).mono ?_
  rintro e w1 ⟨v1, rfl, hown, hb⟩
  obtain ⟨A', c', rfl, hs', hc'⟩ := own_bytes hown
  exact ⟨A', c', rfl, hs', hc', hb⟩

end Go.Proofs.Ytiilbcficgpohaa
