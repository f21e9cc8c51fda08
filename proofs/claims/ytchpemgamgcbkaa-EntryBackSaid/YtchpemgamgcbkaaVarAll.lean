/-
  Contracts of varint's Put, Len, Get and of the document's own answers, one for number or error. Conditions: those that each theorem names.
-/
import Derived.Test.YtchpemgamgcbkaaVarRefB
namespace Go.Proofs.Ytchpemgamgcbkaa
open Go.RowKit

/-- Put behind b, the lengths under names of their own. -/
theorem put_behind (A : Option Addr) (c : Nat) (bs : List UInt8) (lb n : Nat) (xs : List UInt8) (lx : Nat) (hlb : lb = bs.length) (hxs : xs = bs ++ VP.enc n) (hlx : lx = xs.length) (w : World) (hs : Seen w w.heap.size A (cells bs)) (hx : lb ≤ 1000000) (hn : n ≤ 1099511627776) :
    Calls Try.prog 48 #[.slice A lb c, .int .i64 (n : Int)] w fun e w' =>
      ∃ A' c', e = .returned (.tuple #[.slice A' lx c', .int .i64 0]) ∧ Seen w' w'.heap.size A' (cells xs) ∧ lx ≤ c' ∧ Below w.heap.size w w' := by
  subst hlb hxs hlx
  refine (put_yes A c bs n w hs hx hn).mono ?_
  rintro e w1 ⟨v1, rfl, hown, hb⟩
  obtain ⟨A', c', rfl, hs', hc'⟩ := own_bytes hown
  exact ⟨A', c', rfl, hs', hc', hb⟩

/-- What Put of n behind bs is: bytes and an error's number. -/
def PutIs (bs : List UInt8) (n : Int) (xs : List UInt8) (er : Int) : Prop :=
  (0 ≤ n ∧ n ≤ 1099511627776 ∧ xs = bs ++ VP.enc n.toNat ∧ er = 0) ∨ ((n < 0 ∨ 1099511627776 < n) ∧ xs = [] ∧ er = 2)
/-- What Len of n is. -/
def LenIs (n : Int) (l : Nat) : Prop := (0 ≤ n ∧ n ≤ 1099511627776 ∧ l = (VP.enc n.toNat).length) ∨ ((n < 0 ∨ 1099511627776 < n) ∧ l = 0)
/-- What Get of bs at a place is: a number, the place behind it, an error's number. -/
def GetIs (bs : List UInt8) (at_ : Int) (n bh er : Int) : Prop :=
  (∃ p m k : Nat, at_ = p ∧ p ≤ bs.length ∧ VP.dec (bs.drop p) = some (m, k) ∧ n = m ∧ bh = ((p + k : Nat) : Int) ∧ er = 0) ∨
  ((at_ < 0 ∨ (bs.length : Int) < at_ ∨ VP.dec (bs.drop at_.toNat) = none) ∧ n = 0 ∧ bh = 0 ∧ er = 70)

theorem putIs_of (bs : List UInt8) (n : Int) : ∃ xs er, PutIs bs n xs er := by
  by_cases h : n < 0 ∨ 1099511627776 < n
  · exact ⟨[], 2, .inr ⟨h, rfl, rfl⟩⟩
  · exact ⟨_, 0, .inl ⟨by omega, by omega, rfl, rfl⟩⟩
theorem lenIs_of (n : Int) : ∃ l, LenIs n l := by
  by_cases h : n < 0 ∨ 1099511627776 < n
  · exact ⟨0, .inr ⟨h, rfl⟩⟩
  · exact ⟨_, .inl ⟨by omega, by omega, rfl⟩⟩
theorem getIs_of (bs : List UInt8) (at_ : Int) : ∃ n bh er, GetIs bs at_ n bh er := by
  by_cases h : at_ < 0 ∨ (bs.length : Int) < at_ ∨ VP.dec (bs.drop at_.toNat) = none
  · exact ⟨0, 0, 70, .inr ⟨h, rfl, rfl, rfl⟩⟩
  · obtain ⟨p, rfl⟩ : ∃ p : Nat, at_ = p := ⟨at_.toNat, by omega⟩
    rw [Int.toNat_natCast] at h
    rcases hd : VP.dec (bs.drop p) with _ | ⟨m, k⟩
    · exact absurd (Or.inr (Or.inr hd)) h
    · exact ⟨m, _, 0, .inl ⟨p, m, k, rfl, by omega, hd, rfl, rfl, rfl⟩⟩

section
variable (A : Option Addr) (c : Nat) (bs : List UInt8) (lb : Nat)
theorem put_all (n : Int) (xs : List UInt8) (er : Int) (lx : Nat) (w : World) (hp : PutIs bs n xs er) (hlb : lb = bs.length) (hlx : lx = xs.length) (hs : Seen w w.heap.size A (cells bs)) (hx : lb ≤ 1000000) :
    Calls Try.prog 48 #[.slice A lb c, .int .i64 n] w fun e w' => ∃ A' c', e = .returned (.tuple #[.slice A' lx c', .int .i64 er]) ∧ Seen w' w'.heap.size A' (cells xs) ∧ lx ≤ c' ∧ Below w.heap.size w w' := by
  rcases hp with ⟨h0, h1, rfl, rfl⟩ | ⟨h, rfl, rfl⟩
  · obtain ⟨m, rfl⟩ : ∃ m : Nat, n = m := ⟨n.toNat, by omega⟩
    rw [Int.toNat_natCast] at hlx ⊢
    exact put_behind A c bs lb m _ lx hlb rfl hlx w hs hx (by omega)
  · refine (put_no _ n w h).mono ?_
    rintro e w' ⟨rfl, rfl⟩
    subst hlx
    exact ⟨none, 0, rfl, Seen.nil _ _ _, Nat.le_refl _, Below.refl _ _⟩
theorem len_all (n : Int) (l : Nat) (w : World) (hl : LenIs n l) :
    Calls Try.prog 61 #[.int .i64 n] w fun e w' => e = .returned (.int .i64 (l : Int)) ∧ w = w' := by
  rcases hl with ⟨h0, h1, rfl⟩ | ⟨h, rfl⟩
  · obtain ⟨m, rfl⟩ : ∃ m : Nat, n = m := ⟨n.toNat, by omega⟩
    rw [Int.toNat_natCast]
    exact len_yes m w (by omega)
  · exact len_no n w h
theorem get_all (at_ n bh er : Int) (w : World) (hg : GetIs bs at_ n bh er) (hlb : lb = bs.length) (hs : Seen w w.heap.size A (cells bs)) (hx : lb ≤ 1000000) (hc : lb ≤ c) :
    Calls Try.prog 62 #[.slice A lb c, .int .i64 at_] w fun e w' => e = .returned (.tuple #[.int .i64 n, .int .i64 bh, .int .i64 er]) ∧ Below w.heap.size w w' := by
  rcases hg with ⟨p, m, k, rfl, hp, hd, rfl, rfl, rfl⟩ | ⟨h, rfl, rfl, rfl⟩
  · exact get_yes A c bs lb p m _ w hlb hs hx hc (by omega) k hd rfl
  · exact get_not A c bs lb at_ w hlb hs hx hc (by rw [hlb]; exact h)
end

end Go.Proofs.Ytchpemgamgcbkaa
