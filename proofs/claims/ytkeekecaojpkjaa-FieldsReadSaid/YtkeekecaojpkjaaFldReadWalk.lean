/-
  The walk over FieldsRead: it returns true and turns nothing that was there. Condition: what is said of the string and the slice that came in.
-/
import Derived.Test.YtkeekecaojpkjaaFldWakes
import Derived.Test.YtkeekecaojpkjaaFldRows
import Derived.Deep.RegionHeld3
namespace Go.Proofs.Ytkeekecaojpkjaa
open Go.RowKit

/-- Row i of a slice of readings. -/
def TakeRow (w : World) (a : Option Addr) (i : Nat) : Prop := ∃ b off d p q, a = some ⟨b, off, none⟩ ∧ b < w.heap.size ∧ w.cell? ⟨b, off + i * 3, none⟩ = some (.int .i64 d) ∧ w.cell? ⟨b, off + i * 3 + 1, none⟩ = some (.int .i64 p) ∧ w.cell? ⟨b, off + i * 3 + 2, none⟩ = some (.int .i64 q)

/-- What is the same of both readers at each round's head. -/
def Both (w wr : World) (g2 : Nat) (s : ByteArray) (p : Nat) (bad : Bool) : Prop := p ≤ s.size ∧ Rd 42 wr w.heap.size s p bad ∧ Rd 43 wr g2 s p bad ∧ Below w.heap.size w wr

set_option maxRecDepth 100000 in
set_option maxHeartbeats 4000000 in
theorem read_in (s : ByteArray) (a : Option Addr) (len cap : Nat) (w : World) (hs : s.size ≤ 4000) (hl : len ≤ 100) (hrows : ∀ i, i < len → TakeRow w a i) :
    Calls Try.prog 4 #[.string s, .slice a len cap] w fun e w' => e = .returned (.bool true) ∧ Below w.heap.size w w' := by
  have HROWS := Lib.hid hrows
  clear hrows
  go_enter Try.func4, Try.ntmps4
  go_wp2_with fail
  refine (new_any s _).mono ?_
  rintro e w1 ⟨rfl, hr1, hb1⟩
  go_wp2_with fail
  refine (ref_new s _).mono ?_
  rintro e w2 ⟨rfl, hq2, hb2⟩
  obtain ⟨g2, hg2⟩ : ∃ g2, g2 = w1.heap.size := ⟨_, rfl⟩
  rw [← hg2] at hq2 hb2 ⊢
  have hlt1 := Var.lt hr1
  rw [← hg2] at hlt1
  have hr2 : Rd 42 w2 w.heap.size s 0 false := Var.below hr1 hb2 hlt1
  have hb02 : Below w.heap.size w w2 := hb1.trans (hb2.mono (by omega))
  have hboth : Both w w2 g2 s 0 false := ⟨by omega, hr2, hq2, hb02⟩
  have HBO := Lib.hid hboth
  clear hg2 hr1 hb1 hq2 hb2 hr2 hb02 hboth
  go_wp2_with fail
  go_loopw [7] (fun i wr => ∃ (k p : Nat) (bad : Bool), k ≤ len ∧ i = .int .i64 k ∧ Both w wr g2 s p bad) (fun i _ => len - (intOf i).toNat)
  case atStart => exact ⟨0, 0, false, by omega, rfl, HBO.out⟩
  case round =>
    obtain ⟨k, p, bad, hk, rfl, hboth⟩ := hrel
    obtain ⟨hp, hr, hq, hbw⟩ := hboth
    clear HBO
    by_cases hlt : k < len
    · obtain ⟨b, off, d, x, y, rfl, hbB, c0, c1, c2⟩ := HROWS.out k hlt
      have d0 : wr.cell? ⟨b, off + k * 3, none⟩ = some (.int .i64 d) := (hbw.cell (p := ⟨b, off + k * 3, none⟩) hbB).trans c0
      have d1 : wr.cell? ⟨b, off + k * 3 + 1, none⟩ = some (.int .i64 x) := (hbw.cell (p := ⟨b, off + k * 3 + 1, none⟩) hbB).trans c1
      have d2 : wr.cell? ⟨b, off + k * 3 + 2, none⟩ = some (.int .i64 y) := (hbw.cell (p := ⟨b, off + k * 3 + 2, none⟩) hbB).trans c2
      have hs6 : s.size ≤ 1000000 := by omega
      clear c0 c1 c2
      have i0 : (0 : Int) ≤ (k : Int) := by omega
      have i1 : (k : Int) < (len : Int) := by omega
      have hgb : b ≠ w.heap.size := by omega
      have hgb2 : b ≠ g2 := by omega
      have hg1w := Var.lt hr
      have hg2w := Var.lt hq
      have hbk : ∀ W, Kept [w.heap.size] wr W → Rd 43 W g2 s p bad ∧ Below w.heap.size w W ∧ W.cell? ⟨b, off + k * 3 + 1, none⟩ = some (.int .i64 x) ∧ W.cell? ⟨b, off + k * 3 + 2, none⟩ = some (.int .i64 y) := fun W hk => by
        have hbl : Below w.heap.size wr W := hk.below hbw.size (by intro z hz; simp at hz; omega)
        exact ⟨Var.kept hq hk (by simp; omega), hbw.trans hbl, (hbl.cell (p := ⟨b, off + k * 3 + 1, none⟩) hbB).trans d1, (hbl.cell (p := ⟨b, off + k * 3 + 2, none⟩) hbB).trans d2⟩
      have HBK := Lib.hid hbk
      clear hbk
      by_cases hd0 : d = 0
      · subst hd0
        obtain ⟨v, p', bad', hn⟩ := numIs_of s p bad x y
        obtain ⟨er, he⟩ := endIs_of s p' bad'
        have hp6 := hn.le hp
        have HN := Lib.hid hn
        have HE := Lib.hid he
        clear hn he
        go_wp2_with fail
        go_region_held3 (fun w' => w'.cell? ⟨b, off + k * 3 + 1, none⟩ = some (.int .i64 x) ∧ w'.cell? ⟨b, off + k * 3 + 2, none⟩ = some (.int .i64 y))
          (first | go_keep | (constructor <;> assumption))
          (first
            | (go_at_call 17; refine (number_all w.heap.size s p bad x y v p' bad' _ HN.out ?_ hs6 hp).mono ?_; (exact hr); rintro e w5 ⟨rfl, hr5, hk5⟩; obtain ⟨hq5, hb5, k1, k2⟩ := HBK.out w5 ((Kept.refl [w.heap.size] wr).drew.trans hk5))
            | (go_at_call 18; refine (ref_number_all g2 s p _ bad x y v p' bad' HN.out ?_ hs6 hp).mono ?_; (exact hq5); rintro e w6 ⟨rfl, hq6, hk6⟩; have hr6 : Rd 42 w6 w.heap.size s p' bad' := Var.kept hr5 hk6 (by simp; omega); have hbl : Below w.heap.size w5 w6 := hk6.below hb5.size (by intro z hz; simp at hz; omega); have hb6 := hb5.trans hbl; have k1' := (hbl.cell (p := ⟨b, off + k * 3 + 1, none⟩) hbB).trans k1; have k2' := (hbl.cell (p := ⟨b, off + k * 3 + 2, none⟩) hbB).trans k2))
        clear d0 d1 d2 k1 k2 k1' k2' hr5 hq5 hb5 hk5 hk6 hbl
        obtain ⟨f0, f1, f2⟩ := Rd.cells hr6
        obtain ⟨x0, x1, x2⟩ := Rd.cells hq6
        cases bad'
        all_goals
          go_wp2_with fail
          go_quiet ((first
            | (go_at_call 25; exact Calls.quiet_of (end_all w.heap.size s _ _ er _ HE.out hr6))
            | (go_at_call 26; exact Calls.quiet_of (ref_end g2 s _ _ er _ HE.out hq6))))
          go_wp2
          go_roundw
          case rel => exact ⟨k + 1, p', _, by omega, by go_num, hp6, hr6, hq6, hb6.drewN' _⟩
          case measure => simp [intOf]; omega
      · by_cases hd1 : d = 1
        · subst hd1
          obtain ⟨v, p', bad', hn⟩ := textIs_of s p bad y
          obtain ⟨er, he⟩ := endIs_of s p' bad'
          have hp6 := hn.le hp
          have HN := Lib.hid hn
          have HE := Lib.hid he
          clear hn he hd0
          go_wp2_with fail
          go_region_held3 (fun w' => w'.cell? ⟨b, off + k * 3 + 1, none⟩ = some (.int .i64 x) ∧ w'.cell? ⟨b, off + k * 3 + 2, none⟩ = some (.int .i64 y))
            (first | go_keep | (constructor <;> assumption))
            (first
              | (go_at_call 19; refine (text_all w.heap.size s p bad y v p' bad' _ HN.out ?_ hs6 hp).mono ?_; (exact hr); rintro e w5 ⟨rfl, hr5, hk5⟩; obtain ⟨hq5, hb5, k1, k2⟩ := HBK.out w5 ((Kept.refl [w.heap.size] wr).drew.trans hk5))
              | (go_at_call 20; refine (ref_text_all g2 s p _ bad y v p' bad' HN.out ?_ hs6 hp).mono ?_; (exact hq5); rintro e w6 ⟨rfl, hq6, hk6⟩; have hr6 : Rd 42 w6 w.heap.size s p' bad' := Var.kept hr5 hk6 (by simp; omega); have hbl : Below w.heap.size w5 w6 := hk6.below hb5.size (by intro z hz; simp at hz; omega); have hb6 := hb5.trans hbl; have k1' := (hbl.cell (p := ⟨b, off + k * 3 + 1, none⟩) hbB).trans k1; have k2' := (hbl.cell (p := ⟨b, off + k * 3 + 2, none⟩) hbB).trans k2))
          clear d0 d1 d2 k1 k2 k1' k2' hr5 hq5 hb5 hk5 hk6 hbl
          obtain ⟨f0, f1, f2⟩ := Rd.cells hr6
          obtain ⟨x0, x1, x2⟩ := Rd.cells hq6
          cases bad'
          all_goals
            go_wp2_with fail
            go_quiet ((first
              | (go_at_call 25; exact Calls.quiet_of (end_all w.heap.size s _ _ er _ HE.out hr6))
              | (go_at_call 26; exact Calls.quiet_of (ref_end g2 s _ _ er _ HE.out hq6))))
            go_wp2
            go_roundw
            case rel => exact ⟨k + 1, p', _, by omega, by go_num, hp6, hr6, hq6, hb6.drewN' _⟩
            case measure => simp [intOf]; omega
        · by_cases hd2 : d = 2
          · subst hd2
            obtain ⟨v, p', bad', hn⟩ := flagIs_of s p bad
            obtain ⟨er, he⟩ := endIs_of s p' bad'
            have hp6 := hn.le hp
            have HN := Lib.hid hn
            have HE := Lib.hid he
            clear hn he hd0 hd1
            go_wp2_with fail
            refine (flag_all w.heap.size s p bad v p' bad' _ HN.out hr hs6).mono ?_
            rintro e w5 ⟨rfl, hr5, hk5⟩
            obtain ⟨hq5, hb5, k1, k2⟩ := HBK.out w5 hk5
            go_wp2_with fail
            refine (ref_flag_all g2 s p _ bad v p' bad' HN.out hq5 hs6).mono ?_
            rintro e w6 ⟨rfl, hq6, hk6⟩
            have hr6 : Rd 42 w6 w.heap.size s p' bad' := Var.kept hr5 hk6 (by simp; omega)
            have hbl : Below w.heap.size w5 w6 := hk6.below hb5.size (by intro z hz; simp at hz; omega)
            have hb6 := hb5.trans hbl
            clear d0 d1 d2 k1 k2 hr5 hq5 hb5 hk5 hk6 hbl
            have hvv : (v == v) = true := by simp
            obtain ⟨f0, f1, f2⟩ := Rd.cells hr6
            obtain ⟨x0, x1, x2⟩ := Rd.cells hq6
            cases bad'
            all_goals
              go_wp2_with fail
              go_quiet ((first
                | (go_at_call 25; exact Calls.quiet_of (end_all w.heap.size s _ _ er _ HE.out hr6))
                | (go_at_call 26; exact Calls.quiet_of (ref_end g2 s _ _ er _ HE.out hq6))))
              go_wp2
              go_roundw
              case rel => exact ⟨k + 1, p', _, by omega, by go_num, hp6, hr6, hq6, hb6.drewN' _⟩
              case measure => simp [intOf]; omega
          · by_cases hd3 : d = 3
            · subst hd3
              obtain ⟨p', hpp⟩ : ∃ p', p' = p := ⟨_, rfl⟩
              subst hpp
              obtain ⟨er, he⟩ := endIs_of s p' true
              have hp6 := hp
              have HE := Lib.hid he
              clear he hd0 hd1 hd2
              go_wp2_with fail
              refine (wrong_ptr w.heap.size s p' bad _ hr).mono ?_
              rintro e w5 ⟨rfl, hr5, hk5⟩
              obtain ⟨hq5, hb5, k1, k2⟩ := HBK.out w5 hk5
              go_wp2_with fail
              refine (ref_wrong g2 s p' bad _ hq5).mono ?_
              rintro e w6 ⟨rfl, hq6, hk6⟩
              have hr6 : Rd 42 w6 w.heap.size s p' true := Var.kept hr5 hk6 (by simp; omega)
              have hbl : Below w.heap.size w5 w6 := hk6.below hb5.size (by intro z hz; simp at hz; omega)
              have hb6 := hb5.trans hbl
              clear d0 d1 d2 k1 k2 hr5 hq5 hb5 hk5 hk6 hbl
              obtain ⟨f0, f1, f2⟩ := Rd.cells hr6
              obtain ⟨x0, x1, x2⟩ := Rd.cells hq6
              all_goals
                go_wp2_with fail
                go_quiet ((first
                  | (go_at_call 25; exact Calls.quiet_of (end_all w.heap.size s _ _ er _ HE.out hr6))
                  | (go_at_call 26; exact Calls.quiet_of (ref_end g2 s _ _ er _ HE.out hq6))))
                go_wp2
                go_roundw
                case rel => exact ⟨k + 1, p', _, by omega, by go_num, hp6, hr6, hq6, hb6.drewN' _⟩
                case measure => simp [intOf]; omega
            · have z0 : (d == 0) = false := by simpa using hd0
              have z1 : (d == 1) = false := by simpa using hd1
              have z2 : (d == 2) = false := by simpa using hd2
              have z3 : (d == 3) = false := by simpa using hd3
              obtain ⟨p', hpp⟩ : ∃ p', p' = p := ⟨_, rfl⟩
              subst hpp
              obtain ⟨er, he⟩ := endIs_of s p' bad
              have HE := Lib.hid he
              have hp6 := hp
              have hr6 := hr
              have hq6 := hq
              have hb6 := hbw
              clear he hd0 hd1 hd2 hd3 hr hq hbw hp d1 d2 HBK
              obtain ⟨f0, f1, f2⟩ := Rd.cells hr6
              obtain ⟨x0, x1, x2⟩ := Rd.cells hq6
              cases bad
              all_goals
                go_wp2_with fail
                go_quiet ((first
                  | (go_at_call 25; exact Calls.quiet_of (end_all w.heap.size s _ _ er _ HE.out hr6))
                  | (go_at_call 26; exact Calls.quiet_of (ref_end g2 s _ _ er _ HE.out hq6))))
                go_wp2
                go_roundw
                case rel => exact ⟨k + 1, p', _, by omega, by go_num, hp6, hr6, hq6, hb6.drewN' _⟩
                case measure => simp [intOf]; omega
    · have hke : k = len := by omega
      clear hlt
      go_wp2_with fail
      refine (wrong_nil _).mono ?_
      rintro e w5 ⟨rfl, rfl⟩
      go_wp2_with fail
      refine (number_nil 0 1 _).mono ?_
      rintro e w5 ⟨rfl, hb5⟩
      go_wp2_with fail
      refine (text_nil 9 _).mono ?_
      rintro e w6 ⟨rfl, hb6⟩
      go_wp2_with fail
      refine (flag_nil _).mono ?_
      rintro e w7 ⟨rfl, hb7⟩
      go_wp2_with fail
      refine (end_nil _).mono ?_
      rintro e w8 ⟨rfl, q, rfl⟩
      go_wp2_with fail
      refine (wakes_any _).mono ?_
      rintro e w9 ⟨rfl, hb9⟩
      have z5 := hbw.size
      have z6 := hb5.size
      have z7 := hb6.size
      have z8 := hb7.size
      have hfin : Below w.heap.size w w9 := ((((hbw.trans (hb5.mono (by omega))).trans (hb6.mono (by omega))).trans (hb7.mono (by omega))).drewN' q).trans (hb9.mono (by simp; omega))
      go_wp2
      go_ret
      exact ⟨rfl, hfin⟩

set_option maxRecDepth 100000 in
theorem read_long (s : ByteArray) (a : Option Addr) (len cap : Nat) (w : World) (h : 4000 < s.size ∨ 100 < len) (hs : s.size ≤ 9223372036854775807) (hl : len ≤ 9223372036854775807) :
    Calls Try.prog 4 #[.string s, .slice a len cap] w fun e w' => e = .returned (.bool true) ∧ Below w.heap.size w w' := by
  by_cases h1 : 4000 < s.size
  · go_enter Try.func4, Try.ntmps4
    go_wp2_with fail
    refine (wakes_any _).mono ?_
    rintro e w1 ⟨rfl, hb⟩
    go_wp2
    go_ret
    exact ⟨rfl, hb⟩
  · have h2 : 100 < len := by omega
    have h1' : s.size ≤ 4000 := by omega
    clear h h1
    go_enter Try.func4, Try.ntmps4
    go_wp2_with fail
    refine (wakes_any _).mono ?_
    rintro e w1 ⟨rfl, hb⟩
    go_wp2
    go_ret
    exact ⟨rfl, hb⟩

theorem read_walk (s : ByteArray) (a : Option Addr) (len cap : Nat) (w : World) (hs : s.size ≤ maxLen) (hl : len ≤ maxLen) (hrows : ∀ i, i < len → TakeRow w a i) :
    Calls Try.prog 4 #[.string s, .slice a len cap] w fun e w' => e = .returned (.bool true) ∧ Below w.heap.size w w' := by
  unfold maxLen at hs hl
  by_cases h : 4000 < s.size ∨ 100 < len
  · exact read_long s a len cap w h (by omega) (by omega)
  · exact read_in s a len cap w (by omega) (by omega) hrows

end Go.Proofs.Ytkeekecaojpkjaa
