/-
  The walk over VarintTells: it returns true and turns nothing that was there. Condition: what is said of the slice that came in.
-/
import Derived.Test.YtaoiafbjnpigaaaVarRefB
namespace Go.Proofs.Ytaoiafbjnpigaaa
open Go.RowKit

/-- What Put of n behind bs is: bytes and an error's number. -/
def PutIs (bs : List UInt8) (n : Int) (xs : List UInt8) (er : Int) : Prop :=
  (0 ≤ n ∧ n ≤ 1099511627776 ∧ xs = bs ++ VP.enc n.toNat ∧ er = 0) ∨ ((n < 0 ∨ 1099511627776 < n) ∧ xs = [] ∧ er = 2)
/-- What Len of n is. -/
def LenIs (n : Int) (l : Nat) : Prop := (0 ≤ n ∧ n ≤ 1099511627776 ∧ l = (VP.enc n.toNat).length) ∨ ((n < 0 ∨ 1099511627776 < n) ∧ l = 0)
/-- What Get of bs at a place is: a number, the place behind it, an error's number. -/
def GetIs (bs : List UInt8) (at_ : Int) (n bh er : Int) : Prop :=
  (∃ p m k : Nat, at_ = p ∧ p ≤ bs.length ∧ VP.dec (bs.drop p) = some (m, k) ∧ n = m ∧ bh = ((p + k : Nat) : Int) ∧ er = 0) ∨
  ((at_ < 0 ∨ (bs.length : Int) < at_ ∨ VP.dec (bs.drop at_.toNat) = none) ∧ n = 0 ∧ bh = 0 ∧ er = 70)

theorem putIs_of (bs : List UInt8) (n : Int) : ∃ xs er, PutIs bs n xs er := by
  by_cases h : n < 0 ∨ 1099511627776 < n
  · exact ⟨[], 2, .inr ⟨h, rfl, rfl⟩⟩
  · exact ⟨_, 0, .inl ⟨by omega, by omega, rfl, rfl⟩⟩
theorem lenIs_of (n : Int) : ∃ l, LenIs n l := by
  by_cases h : n < 0 ∨ 1099511627776 < n
  · exact ⟨0, .inr ⟨h, rfl⟩⟩
  · exact ⟨_, .inl ⟨by omega, by omega, rfl⟩⟩
theorem getIs_of (bs : List UInt8) (at_ : Int) : ∃ n bh er, GetIs bs at_ n bh er := by
  by_cases h : at_ < 0 ∨ (bs.length : Int) < at_ ∨ VP.dec (bs.drop at_.toNat) = none
  · exact ⟨0, 0, 70, .inr ⟨h, rfl, rfl, rfl⟩⟩
  · obtain ⟨p, rfl⟩ : ∃ p : Nat, at_ = p := ⟨at_.toNat, by omega⟩
    rw [Int.toNat_natCast] at h
    rcases hd : VP.dec (bs.drop p) with _ | ⟨m, k⟩
    · exact absurd (Or.inr (Or.inr hd)) h
    · exact ⟨m, _, 0, .inl ⟨p, m, k, rfl, by omega, hd, rfl, rfl, rfl⟩⟩

section
variable (A : Option Addr) (c : Nat) (bs : List UInt8) (lb : Nat)
theorem put_all (n : Int) (xs : List UInt8) (er : Int) (lx : Nat) (w : World) (hp : PutIs bs n xs er) (hlb : lb = bs.length) (hlx : lx = xs.length) (hs : Seen w w.heap.size A (cells bs)) (hx : lb ≤ 1000000) :
    Calls Try.prog 10 #[.slice A lb c, .int .i64 n] w fun e w' => ∃ A' c', e = .returned (.tuple #[.slice A' lx c', .int .i64 er]) ∧ Seen w' w'.heap.size A' (cells xs) ∧ lx ≤ c' ∧ Below w.heap.size w w' := by
  rcases hp with ⟨h0, h1, rfl, rfl⟩ | ⟨h, rfl, rfl⟩
  · obtain ⟨m, rfl⟩ : ∃ m : Nat, n = m := ⟨n.toNat, by omega⟩
    rw [Int.toNat_natCast] at hlx ⊢
    exact put_behind A c bs lb m _ lx hlb rfl hlx w hs hx (by omega)
  · refine (put_no _ n w h).mono ?_
    rintro e w' ⟨rfl, rfl⟩
    subst hlx
    exact ⟨none, 0, rfl, Seen.nil _ _ _, Nat.le_refl _, Below.refl _ _⟩
theorem ref_put_all (n : Int) (xs : List UInt8) (er : Int) (lx : Nat) (w : World) (hp : PutIs bs n xs er) (hlb : lb = bs.length) (hlx : lx = xs.length) (hs : Seen w w.heap.size A (cells bs)) (hx : lb ≤ 1000000) :
    Calls Try.prog 11 #[.slice A lb c, .int .i64 n] w fun e w' => ∃ A' c', e = .returned (.tuple #[.slice A' lx c', .int .i64 er]) ∧ Seen w' w'.heap.size A' (cells xs) ∧ lx ≤ c' ∧ Below w.heap.size w w' := by
  rcases hp with ⟨h0, h1, rfl, rfl⟩ | ⟨h, rfl, rfl⟩
  · obtain ⟨m, rfl⟩ : ∃ m : Nat, n = m := ⟨n.toNat, by omega⟩
    rw [Int.toNat_natCast] at hlx ⊢
    exact ref_put_yes A c bs lb m _ lx hlb rfl hlx w hs hx (by omega)
  · refine (ref_put_no _ n w h).mono ?_
    rintro e w' ⟨rfl, rfl⟩
    subst hlx
    exact ⟨none, 0, rfl, Seen.nil _ _ _, Nat.le_refl _, Below.refl _ _⟩
theorem len_all (n : Int) (l : Nat) (w : World) (hl : LenIs n l) :
    Calls Try.prog 14 #[.int .i64 n] w fun e w' => e = .returned (.int .i64 (l : Int)) ∧ w = w' := by
  rcases hl with ⟨h0, h1, rfl⟩ | ⟨h, rfl⟩
  · obtain ⟨m, rfl⟩ : ∃ m : Nat, n = m := ⟨n.toNat, by omega⟩
    rw [Int.toNat_natCast]
    exact len_yes m w (by omega)
  · exact len_no n w h
theorem ref_len_all (n : Int) (l : Nat) (w : World) (hl : LenIs n l) :
    Calls Try.prog 15 #[.int .i64 n] w fun e w' => e = .returned (.int .i64 (l : Int)) ∧ Below w.heap.size w w' := by
  rcases hl with ⟨h0, h1, rfl⟩ | ⟨h, rfl⟩
  · obtain ⟨m, rfl⟩ : ∃ m : Nat, n = m := ⟨n.toNat, by omega⟩
    rw [Int.toNat_natCast]
    exact ref_len_yes m _ _ rfl rfl w (by omega)
  · refine (ref_len_no n w h).mono ?_
    rintro e w' ⟨rfl, rfl⟩
    exact ⟨rfl, Below.refl _ _⟩
theorem get_all (at_ n bh er : Int) (w : World) (hg : GetIs bs at_ n bh er) (hlb : lb = bs.length) (hs : Seen w w.heap.size A (cells bs)) (hx : lb ≤ 1000000) (hc : lb ≤ c) :
    Calls Try.prog 12 #[.slice A lb c, .int .i64 at_] w fun e w' => e = .returned (.tuple #[.int .i64 n, .int .i64 bh, .int .i64 er]) ∧ Below w.heap.size w w' := by
  rcases hg with ⟨p, m, k, rfl, hp, hd, rfl, rfl, rfl⟩ | ⟨h, rfl, rfl, rfl⟩
  · exact get_yes A c bs lb p m _ w hlb hs hx hc (by omega) k hd rfl
  · exact get_not A c bs lb at_ w hlb hs hx hc (by rw [hlb]; exact h)
theorem ref_get_all (at_ n bh er : Int) (w : World) (hg : GetIs bs at_ n bh er) (hlb : lb = bs.length) (hs : Seen w w.heap.size A (cells bs)) (hx : lb ≤ 1000000) :
    Calls Try.prog 13 #[.slice A lb c, .int .i64 at_] w fun e w' => e = .returned (.tuple #[.int .i64 n, .int .i64 bh, .int .i64 er]) ∧ w = w' := by
  rcases hg with ⟨p, m, k, rfl, hp, hd, rfl, rfl, rfl⟩ | ⟨h, rfl, rfl, rfl⟩
  · refine (ref_get A c bs lb p w hlb hs hx (by omega)).mono ?_
    rintro e w' ⟨hw, h1, _⟩
    exact ⟨h1 m k hd, hw⟩
  · by_cases hout : at_ < 0 ∨ (lb : Int) < at_
    · exact ref_get_out A lb c at_ w hout
    · obtain ⟨p, rfl⟩ : ∃ p : Nat, at_ = p := ⟨at_.toNat, by omega⟩
      rw [Int.toNat_natCast] at h
      have hd : VP.dec (bs.drop p) = none := by
        rcases h with h | h | h
        · omega
        · omega
        · exact h
      refine (ref_get A c bs lb p w hlb hs hx (by omega)).mono ?_
      rintro e w' ⟨hw, _, h1⟩
      exact ⟨h1 hd, hw⟩
end

set_option maxRecDepth 100000 in
set_option maxHeartbeats 1000000 in
theorem tells_in (A : Option Addr) (c : Nat) (bs : List UInt8) (lb : Nat) (n at_ : Int) (w : World) (hlb : lb = bs.length) (hs : Seen w w.heap.size A (cells bs)) (hx : lb ≤ 2000) (hc : lb ≤ c) :
    Calls Try.prog 3 #[.slice A lb c, .int .i64 n, .int .i64 at_] w fun e w' => e = .returned (.bool true) ∧ Below w.heap.size w w' := by
  obtain ⟨xs, er, hp⟩ := putIs_of bs n
  obtain ⟨lx, hlx⟩ : ∃ lx, lx = xs.length := ⟨_, rfl⟩
  obtain ⟨l, hl⟩ := lenIs_of n
  obtain ⟨u, p, g, hg⟩ := getIs_of bs at_
  have HP := Lib.hid hp
  have HB := Lib.hid hlb
  have HX := Lib.hid hlx
  have HL := Lib.hid hl
  have HG := Lib.hid hg
  clear hp hlb hlx hl hg
  go_enter Try.func3, Try.ntmps3
  go_wp2_with fail
  refine (put_all A c bs lb n xs er lx _ HP.out HB.out HX.out hs (by omega)).mono ?_
  rintro e w1 ⟨A1, c1, rfl, hs1, hc1, hb1⟩
  go_wp2_with fail
  refine (ref_put_all A c bs lb n xs er lx _ HP.out HB.out HX.out ((hs.below hb1).up hb1.size) (by omega)).mono ?_
  rintro e w2 ⟨A2, c2, rfl, hs2, hc2, hb2⟩
  have hbw2 := hb1.trans (hb2.mono hb1.size)
  go_wp2_with fail
  refine (get_all A c bs lb at_ u p g _ HG.out HB.out ((hs.below hbw2).up hbw2.size) (by omega) hc).mono ?_
  rintro e w3 ⟨rfl, hb3⟩
  have hbw3 := hbw2.trans (hb3.mono hbw2.size)
  go_wp2_with fail
  refine (ref_get_all A c bs lb at_ u p g _ HG.out HB.out ((hs.below hbw3).up hbw3.size) (by omega)).mono ?_
  rintro e w4 ⟨rfl, rfl⟩
  have hst1 := str_now (P := Try.prog) ((hs1.below hb2).below (hb3.mono hb2.size)) 22 9 5 lx c1 HX.out Try.underlying22 Try.underlying5 Try.underlying9
  have hst2 := str_now (P := Try.prog) (hs2.below hb3) 22 9 5 lx c2 HX.out Try.underlying22 Try.underlying5 Try.underlying9
  have e1 : (xs == xs) = true := by simp
  have e2 : (er == er) = true := by simp
  have e3 : (u == u) = true := by simp
  have e4 : (p == p) = true := by simp
  have e5 : (g == g) = true := by simp
  have e6 : ((l : Int) == (l : Int)) = true := by simp
  clear hs hs1 hs2 hb1 hb2 hb3 hbw2
  go_wp2_with fail
  refine (len_all n l _ HL.out).mono ?_
  rintro e w5 ⟨rfl, rfl⟩
  go_wp2_with fail
  refine (ref_len_all n l _ HL.out).mono ?_
  rintro e w5 ⟨rfl, hb5⟩
  go_wp2_with fail
  refine (wakes_any _).mono ?_
  rintro e w6 ⟨rfl, hb6⟩
  go_wp2
  go_ret
  exact ⟨rfl, (hbw3.trans (hb5.mono hbw3.size)).trans (hb6.mono (Nat.le_trans hbw3.size hb5.size))⟩

set_option maxRecDepth 100000 in
theorem tells_long (A : Option Addr) (c lb : Nat) (n at_ : Int) (w : World) (hx : 2000 < lb) (hm : lb ≤ 9223372036854775807) :
    Calls Try.prog 3 #[.slice A lb c, .int .i64 n, .int .i64 at_] w fun e w' => e = .returned (.bool true) ∧ Below w.heap.size w w' := by
  go_enter Try.func3, Try.ntmps3
  go_wp2_with fail
  refine (wakes_any _).mono ?_
  rintro e w2 ⟨rfl, hb2⟩
  go_wp2
  go_ret
  exact ⟨rfl, hb2⟩

theorem tells_walk (a0 : Option Addr) (len0 cap0 : Nat) (z0 : List Int) (a1 a2 : Int) (w : World) (w0 : IsRow .u8 w a0 len0 cap0 z0) :
    Calls Try.prog 3 #[.slice a0 len0 cap0, .int .i64 a1, .int .i64 a2] w fun e w' => e = .returned (.bool true) ∧ Below w.heap.size w w' := by
  obtain ⟨bs, hlb, hs, hl, hm⟩ := bytes_in w0
  unfold maxLen at hm
  by_cases hx : 2000 < len0
  · exact tells_long a0 cap0 len0 a1 a2 w hx (by omega)
  · exact tells_in a0 cap0 bs len0 a1 a2 w hlb hs (by omega) hl

end Go.Proofs.Ytaoiafbjnpigaaa
