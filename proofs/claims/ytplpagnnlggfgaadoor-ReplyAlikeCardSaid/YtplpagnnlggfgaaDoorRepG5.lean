/-
  Contracts of fields' Flag, the reader's, of End and New: what each returns and what it does to memory. Conditions: those that each theorem names.
  Contracts of the document's own answers for fields' readers (rovingref02): what each returns and what it does to memory. Conditions: those that each theorem names.
  Contracts of the document's own answers for fields' readers (rovingref02's Text and Flag): what each returns and what it does to memory. Conditions: those that each theorem names.
  Contracts of fields' Number, Text, Flag and Size that write, and of the document's own answers: what each returns and what it does to memory. Conditions: those that each theorem names.
-/
import Derived.Test.YtplpagnnlggfgaaDoorRepG4
namespace Go.Proofs.YtplpagnnlggfgaaDoor
open Go.RowKit
attribute [local go_sem ↓] Go.wp_at_zero Go.wp_at_succ

section
variable (br bv g : Nat) (s : ByteArray) (p : Nat) (v0 : Bool) (w : World)
  (hvr : Var w br 60 #[.pointer (some ⟨g, 0, none⟩)]) (hvt : Var w bv 4 #[.bool v0])
  (hr : Rd 92 w g s p false) (hp : p < s.size) (hx : s.size ≤ 1000000) (hgt : g ≠ bv) (hrt : br ≠ bv)
include hvr hvt hr hp hx hgt hrt

end

/-- What Flag reads: the flag, the place behind, whether the reader is stopped. -/
def FlagIs (s : ByteArray) (p : Nat) (bad v : Bool) (p' : Nat) (bad' : Bool) : Prop :=
  (bad = false ∧ (bytesOf s)[p]? = some (if v then 1 else 0) ∧ p' = p + 1 ∧ bad' = false) ∨
  ((bad = true ∨ s.size ≤ p ∨ ∃ c, (bytesOf s)[p]? = some c ∧ 1 < c.toNat) ∧ v = false ∧ p' = p ∧ bad' = true)
theorem flagIs_of (s : ByteArray) (p : Nat) (bad : Bool) : ∃ v p' bad', FlagIs s p bad v p' bad' := by
  by_cases hb : bad = true
  · exact ⟨false, p, true, .inr ⟨.inl hb, rfl, rfl, rfl⟩⟩
  · have hbf : bad = false := by simpa using hb
    by_cases hp : s.size ≤ p
    · exact ⟨false, p, true, .inr ⟨.inr (.inl hp), rfl, rfl, rfl⟩⟩
    · have hl : p < (bytesOf s).length := by rw [bytesOf_length]; omega
      have hg := List.getElem?_eq_getElem hl
      by_cases h1 : 1 < (bytesOf s)[p].toNat
      · exact ⟨false, p, true, .inr ⟨.inr (.inr ⟨_, hg, h1⟩), rfl, rfl, rfl⟩⟩
      · by_cases h0 : (bytesOf s)[p].toNat = 0
        · refine ⟨false, p + 1, false, .inl ⟨hbf, ?_, rfl, rfl⟩⟩
          rw [hg]; congr 1; exact UInt8.toNat_inj.1 (by simpa using h0)
        · refine ⟨true, p + 1, false, .inl ⟨hbf, ?_, rfl, rfl⟩⟩
          rw [hg]; congr 1; exact UInt8.toNat_inj.1 (by simp; omega)
theorem FlagIs.le {s : ByteArray} {p : Nat} {bad v : Bool} {p' : Nat} {bad' : Bool} (h : FlagIs s p bad v p' bad') (hp : p ≤ s.size) : p' ≤ s.size := by
  rcases h with ⟨_, hd, rfl, _⟩ | ⟨_, _, rfl, _⟩
  · obtain ⟨hl, _⟩ := List.getElem?_eq_some_iff.1 hd
    rw [bytesOf_length] at hl
    omega
  · exact hp
theorem byte_of {s : ByteArray} {p : Nat} {c : UInt8} (h : (bytesOf s)[p]? = some c) : ∃ hp : p < s.size, s[p] = c := by
  obtain ⟨hl, he⟩ := List.getElem?_eq_some_iff.1 h
  have hp : p < s.size := by rw [← bytesOf_length]; exact hl
  exact ⟨hp, by rw [get_is s p hp]; exact he⟩

/-- The variables that Flag makes. -/
def flagWorld (g : Nat) (w : World) : World := (w.alloc (.cells #[.pointer (some ⟨g, 0, none⟩)] 60)).alloc (.cells #[.bool false] 4)
theorem flagWorld_size (g : Nat) (w : World) : (flagWorld g w).heap.size = w.heap.size + 2 := by simp [flagWorld]
theorem flagWorld_below (g : Nat) (w : World) : Below w.heap.size w (flagWorld g w) := ((Below.refl _ _).alloc (Nat.le_refl _) _).alloc (by simp) _
theorem flagWorld_vars (g : Nat) (w : World) : Var (flagWorld g w) w.heap.size 60 #[.pointer (some ⟨g, 0, none⟩)] ∧ Var (flagWorld g w) (w.heap.size + 1) 4 #[.bool false] := by
  have e1 : (w.alloc (.cells #[.pointer (some ⟨g, 0, none⟩)] 60)).heap.size = w.heap.size + 1 := by simp
  refine ⟨(Var.new _ _ _).alloc _, ?_⟩
  rw [← e1]; exact Var.new _ _ _

theorem new_any (s : ByteArray) (w : World) : Calls Tryd.prog 22 #[.string s] w fun e w' =>
    e = .returned (.pointer (some ⟨w.heap.size, 0, none⟩)) ∧ Rd 92 w' w.heap.size s 0 false ∧ Below w.heap.size w w' := by
  have hr : Rd 92 (w.alloc (.cells #[.string s, .int .i64 0, .bool false] 92)) w.heap.size s 0 false := Var.new _ _ _
  have hb : Below w.heap.size w (w.alloc (.cells #[.string s, .int .i64 0, .bool false] 92)) := (Below.refl _ _).alloc (Nat.le_refl _) _
  go_enter Tryd.func22, Tryd.ntmps22
  go_wp2
  go_ret
  exact ⟨rfl, hr, hb⟩

/-- What End says. -/
def EndIs (s : ByteArray) (p : Nat) (bad : Bool) (er : Int) : Prop := (bad = false ∧ p = s.size ∧ er = 0) ∨ ((bad = true ∨ p ≠ s.size) ∧ er = 70)
theorem endIs_of (s : ByteArray) (p : Nat) (bad : Bool) : ∃ er, EndIs s p bad er := by
  by_cases h : bad = false ∧ p = s.size
  · exact ⟨0, .inl ⟨h.1, h.2, rfl⟩⟩
  · refine ⟨70, .inr ⟨?_, rfl⟩⟩
    cases bad
    · exact .inr (fun e => h ⟨rfl, e⟩)
    · exact .inl rfl

set_option maxRecDepth 100000 in
set_option maxHeartbeats 1000000 in
theorem end_all (g : Nat) (s : ByteArray) (p : Nat) (bad : Bool) (er : Int) (w : World) (h : EndIs s p bad er) (hr : Rd 92 w g s p bad) :
    Calls Tryd.prog 23 #[.pointer (some ⟨g, 0, none⟩)] w fun e w' => e = .returned (.int .i64 er) ∧ ∃ n, w' = w.drewN n := by
  obtain ⟨d0, d1, d2⟩ := Rd.cells hr
  rcases h with ⟨rfl, rfl, rfl⟩ | ⟨h, rfl⟩
  · have hself : ((s.size : Int) != (s.size : Int)) = false := by simp
    go_enter Tryd.func23, Tryd.ntmps23
    go_wp2
    go_quiet (fail)
    go_wp2
    go_ret
    exact ⟨rfl, _, rfl⟩
  · by_cases hb : bad = true
    · subst hb
      go_enter Tryd.func23, Tryd.ntmps23
      go_wp2
      go_quiet (fail)
      go_wp2
      go_ret
      exact ⟨rfl, _, rfl⟩
    · have hbf : bad = false := by simpa using hb
      have hne : ((p : Int) != (s.size : Int)) = true := by
        rcases h with h | h
        · exact absurd h hb
        · simp; omega
      subst hbf
      clear h hb
      go_enter Tryd.func23, Tryd.ntmps23
      go_wp2
      go_quiet (fail)
      go_wp2
      go_ret
      exact ⟨rfl, _, rfl⟩

theorem end_nil (w : World) : Calls Tryd.prog 23 #[.pointer none] w fun e w' => e = .returned (.int .i64 70) ∧ ∃ n, w' = w.drewN n := by
  go_enter Tryd.func23, Tryd.ntmps23
  go_wp2
  go_quiet (fail)
  go_wp2
  go_ret
  exact ⟨rfl, _, rfl⟩

end Go.Proofs.YtplpagnnlggfgaaDoor

namespace Go.Proofs.YtplpagnnlggfgaaDoor
open Go.RowKit
attribute [local go_sem ↓] Go.wp_at_zero Go.wp_at_succ

section
variable (g : Nat) (s : ByteArray) (p : Nat) (w : World)

end

end Go.Proofs.YtplpagnnlggfgaaDoor

namespace Go.Proofs.YtplpagnnlggfgaaDoor
open Go.RowKit
attribute [local go_sem ↓] Go.wp_at_zero Go.wp_at_succ

section
variable (g : Nat) (s : ByteArray) (p : Nat) (w : World)

end

end Go.Proofs.YtplpagnnlggfgaaDoor

namespace Go.Proofs.YtplpagnnlggfgaaDoor
open Go.RowKit

section
variable (A : Option Addr) (c : Nat) (bs : List UInt8) (lb : Nat)

theorem num_put (n : Int) (xs : List UInt8) (er : Int) (lx : Nat) (w : World) (hp : PutIs bs n xs er) (hlb : lb = bs.length) (hlx : lx = xs.length) (hs : Seen w w.heap.size A (cells bs)) (hx : lb ≤ 1000000) :
    Calls Tryd.prog 81 #[.slice A lb c, .int .i64 n] w fun e w' => ∃ A' c', e = .returned (.tuple #[.slice A' lx c', .int .i64 er]) ∧ Seen w' w'.heap.size A' (cells xs) ∧ lx ≤ c' ∧ Below w.heap.size w w' := by
  have H := Lib.hid (put_all A c bs lb n xs er lx w hp hlb hlx hs hx)
  clear hp hlb hlx
  go_enter Tryd.func81, Tryd.ntmps81
  go_wp2_with fail
  refine H.out.mono ?_
  rintro e w1 ⟨A', c', rfl, h1, h2, h3⟩
  go_wp2
  go_ret2
  exact ⟨A', c', rfl, h1, h2, h3⟩
/-- What Text of s behind bs is: bytes and an error's number. -/
def TextPut (bs : List UInt8) (s : ByteArray) (xs : List UInt8) (er : Int) : Prop :=
  (s.size ≤ 1024 ∧ xs = bs ++ (VP.enc s.size ++ bytesOf s) ∧ er = 0) ∨ (1024 < s.size ∧ xs = [] ∧ er = 2)
theorem textPut_of (bs : List UInt8) (s : ByteArray) : ∃ xs er, TextPut bs s xs er := by
  by_cases h : s.size ≤ 1024
  · exact ⟨_, 0, .inl ⟨h, rfl, rfl⟩⟩
  · exact ⟨[], 2, .inr ⟨by omega, rfl, rfl⟩⟩
theorem TextPut.le {bs : List UInt8} {s : ByteArray} {xs : List UInt8} {er : Int} (h : TextPut bs s xs er) : xs.length ≤ bs.length + 1030 := by
  rcases h with ⟨h, rfl, _⟩ | ⟨_, rfl, _⟩
  · have := VP.enc_six (n := s.size) (by omega)
    rw [List.length_append, List.length_append, bytesOf_length]
    omega
  · simp

set_option maxRecDepth 100000 in
set_option maxHeartbeats 1000000 in
theorem text_put (s : ByteArray) (xs : List UInt8) (er : Int) (lx : Nat) (w : World) (hp : TextPut bs s xs er) (hlb : lb = bs.length) (hlx : lx = xs.length) (hs : Seen w w.heap.size A (cells bs)) (hx : lb ≤ 1000000) :
    Calls Tryd.prog 82 #[.slice A lb c, .string s] w fun e w' => ∃ A' c', e = .returned (.tuple #[.slice A' lx c', .int .i64 er]) ∧ Seen w' w'.heap.size A' (cells xs) ∧ lx ≤ c' ∧ Below w.heap.size w w' := by
  obtain ⟨i0, hi0, hz0, hz1, hz2⟩ := info_parts u8_info
  rcases hp with ⟨h, hxs, rfl⟩ | ⟨h, rfl, rfl⟩
  · have hput : Calls Tryd.prog 83 #[.slice A lb c, .int .i64 (s.size : Int)] w fun e w' => ∃ v, e = .returned (.tuple #[v, .int .i64 0]) ∧ w'.ownsRow w.heap.size 5 1 v (bs ++ VP.enc s.size).length (cells (bs ++ VP.enc s.size)) ∧ Below w.heap.size w w' := by
      have hx' : bs.length ≤ 1000000 := by omega
      subst hlb
      exact put_yes A c bs s.size w hs hx' (by omega)
    obtain ⟨ms, hms⟩ : ∃ ms, ms = bs ++ VP.enc s.size := ⟨_, rfl⟩
    obtain ⟨lm, hlm⟩ : ∃ lm, lm = ms.length := ⟨_, rfl⟩
    have h6 := VP.enc_six (n := s.size) (by omega)
    have hle : lm ≤ 1000006 := by rw [hlm, hms, List.length_append]; omega
    rw [← hms, ← hlm] at hput
    have H := Lib.hid hput
    have HE : Hid (cells ms ++ Lib.strCells s = cells xs ∧ lm + s.size = lx) := by
      refine ⟨?_, ?_⟩
      · rw [strCells_is, ← cells_append, hxs, hms, List.append_assoc]
      · rw [hlx, hxs, hlm, hms, ← List.append_assoc, List.length_append (bs := bytesOf s), bytesOf_length]
    clear hput hxs hlx hlb h6 hms hlm
    go_enter Tryd.func82, Tryd.ntmps82
    go_wp2_with fail
    refine H.out.mono ?_
    rintro e w1 ⟨v, rfl, hown, hb⟩
    go_wp2_with (at_builtin; refine Lib.wpList_append_own_string _ rfl _ _ 27 9 rfl w.heap.size 5 i0 Tryd.underlying27 Tryd.underlying9 hi0 hz0 hz1 hz2 v _ _ rfl hown s rfl ?c1 ?c2 ?c3 ?_)
    case c1 => unfold maxLen; omega
    case c2 => omega
    case c3 => exact hb.size
    intro v' w2 hown2 hg _
    have hb2 : Below w.heap.size w w2 := hb.grown hg hb.size (fun k hk => (hown.lt k hk).1)
    rw [HE.out.1, HE.out.2] at hown2
    obtain ⟨A', c', rfl, h1, h2⟩ := own_form hown2
    clear hown hown2 hg
    go_wp2
    go_ret2
    exact ⟨A', c', rfl, h1, h2, hb2⟩
  · have h0 : lx = 0 := by simpa using hlx
    subst h0
    clear hlx hlb
    go_enter Tryd.func82, Tryd.ntmps82
    go_wp2
    go_ret2
    exact ⟨none, 0, rfl, Seen.nil _ _ _, Nat.le_refl _, Below.refl _ _⟩

/-- A flag's byte. -/
def flagByte (b : Bool) : UInt8 := if b then 1 else 0

/-- 'b[:len(b):len(b)]'. -/
theorem cut_full {w : World} {B : Nat} (hlb : lb = bs.length) (hs : Seen w B A (cells bs)) (hc : lb ≤ c) :
    ∃ D, (∀ W, (Instr.slice 27 (.slice A lb c) none (some (.int .i64 (lb : Int))) (some (.int .i64 (lb : Int)))).run Tryd.prog W = .ok (.slice D lb lb) W) ∧ Seen w B D (cells bs) ∧ (D = none → lb = 0) := by
  refine ⟨if lb = 0 then A else A.map (·.add (0 * 1)), fun W => ?_, ?_, ?_⟩
  · have ht' : Tryd.prog.underlying 27 = some (.slice (Tryd.prog.elem 27)) := by simp [Program.elem, Tryd.underlying27]
    have he : Tryd.prog.elem 27 = 5 := by simp [Program.elem, Tryd.underlying27]
    rw [run_slice_hm W 27 _ _ _ ht' .i64 .i64 _ _ (by omega) (by omega) (by omega), he, u8_size]
    simp [Result.andThen, sliced]
  · by_cases h0 : lb = 0
    · rw [if_pos h0]; exact hs
    · rw [if_neg h0]
      intro hx
      obtain ⟨b, off, rfl, h1, h2⟩ := hs hx
      exact ⟨b, off, by simp [plain_add], h1, h2⟩
  · intro hn
    by_cases h0 : lb = 0
    · exact h0
    · rw [if_neg h0] at hn
      obtain ⟨b, off, rfl, _, _⟩ := hs (by intro e; have : bs = [] := by simpa [cells] using e
                                           rw [this] at hlb; simp at hlb; exact h0 hlb)
      simp at hn

end

/-- What Size of s is. -/
def SizeIs (s : ByteArray) (l : Nat) : Prop := (s.size ≤ 1024 ∧ l = (VP.enc s.size).length + s.size) ∨ (1024 < s.size ∧ l = 0)
theorem sizeIs_of (s : ByteArray) : ∃ l, SizeIs s l := by
  by_cases h : s.size ≤ 1024
  · exact ⟨_, .inl ⟨h, rfl⟩⟩
  · exact ⟨0, .inr ⟨by omega, rfl⟩⟩

/-- Len, its length under a name of its own. -/
theorem len_named (n : Nat) (xs : List UInt8) (lx : Nat) (hxs : xs = VP.enc n) (hlx : lx = xs.length) (w : World) (hn : n ≤ 1099511627776) :
    Calls Tryd.prog 85 #[.int .i64 (n : Int)] w fun e w' => e = .returned (.int .i64 (lx : Int)) ∧ w = w' := by
  subst hxs hlx
  exact len_yes n w hn

end Go.Proofs.YtplpagnnlggfgaaDoor
