/-
  Contracts of fields' Number, Text, Flag and Size that write, and of the document's own answers: what each returns and what it does to memory. Conditions: those that each theorem names.
-/
import Derived.Test.YtchpemgamgcbkaaFldRefB
namespace Go.Proofs.Ytchpemgamgcbkaa
open Go.RowKit

section
variable (A : Option Addr) (c : Nat) (bs : List UInt8) (lb : Nat)

theorem num_put (n : Int) (xs : List UInt8) (er : Int) (lx : Nat) (w : World) (hp : PutIs bs n xs er) (hlb : lb = bs.length) (hlx : lx = xs.length) (hs : Seen w w.heap.size A (cells bs)) (hx : lb ≤ 1000000) :
    Calls Try.prog 26 #[.slice A lb c, .int .i64 n] w fun e w' => ∃ A' c', e = .returned (.tuple #[.slice A' lx c', .int .i64 er]) ∧ Seen w' w'.heap.size A' (cells xs) ∧ lx ≤ c' ∧ Below w.heap.size w w' := by
  have H := Lib.hid (put_all A c bs lb n xs er lx w hp hlb hlx hs hx)
  clear hp hlb hlx
  go_enter Try.func26, Try.ntmps26
  go_wp2_with fail
  refine H.out.mono ?_
  rintro e w1 ⟨A', c', rfl, h1, h2, h3⟩
  go_wp2
  go_ret2
  exact ⟨A', c', rfl, h1, h2, h3⟩
/-- What Text of s behind bs is: bytes and an error's number. -/
def TextPut (bs : List UInt8) (s : ByteArray) (xs : List UInt8) (er : Int) : Prop :=
  (s.size ≤ 1024 ∧ xs = bs ++ (VP.enc s.size ++ bytesOf s) ∧ er = 0) ∨ (1024 < s.size ∧ xs = [] ∧ er = 2)
theorem textPut_of (bs : List UInt8) (s : ByteArray) : ∃ xs er, TextPut bs s xs er := by
  by_cases h : s.size ≤ 1024
  · exact ⟨_, 0, .inl ⟨h, rfl, rfl⟩⟩
  · exact ⟨[], 2, .inr ⟨by omega, rfl, rfl⟩⟩
theorem TextPut.le {bs : List UInt8} {s : ByteArray} {xs : List UInt8} {er : Int} (h : TextPut bs s xs er) : xs.length ≤ bs.length + 1030 := by
  rcases h with ⟨h, rfl, _⟩ | ⟨_, rfl, _⟩
  · have := VP.enc_six (n := s.size) (by omega)
    rw [List.length_append, List.length_append, bytesOf_length]
    omega
  · simp

set_option maxRecDepth 100000 in
set_option maxHeartbeats 1000000 in
theorem text_put (s : ByteArray) (xs : List UInt8) (er : Int) (lx : Nat) (w : World) (hp : TextPut bs s xs er) (hlb : lb = bs.length) (hlx : lx = xs.length) (hs : Seen w w.heap.size A (cells bs)) (hx : lb ≤ 1000000) :
    Calls Try.prog 68 #[.slice A lb c, .string s] w fun e w' => ∃ A' c', e = .returned (.tuple #[.slice A' lx c', .int .i64 er]) ∧ Seen w' w'.heap.size A' (cells xs) ∧ lx ≤ c' ∧ Below w.heap.size w w' := by
  obtain ⟨i0, hi0, hz0, hz1, hz2⟩ := info_parts u8_info
  rcases hp with ⟨h, hxs, rfl⟩ | ⟨h, rfl, rfl⟩
  · have hput : Calls Try.prog 48 #[.slice A lb c, .int .i64 (s.size : Int)] w fun e w' => ∃ v, e = .returned (.tuple #[v, .int .i64 0]) ∧ w'.ownsRow w.heap.size 5 1 v (bs ++ VP.enc s.size).length (cells (bs ++ VP.enc s.size)) ∧ Below w.heap.size w w' := by
      have hx' : bs.length ≤ 1000000 := by omega
      subst hlb
      exact put_yes A c bs s.size w hs hx' (by omega)
    obtain ⟨ms, hms⟩ : ∃ ms, ms = bs ++ VP.enc s.size := ⟨_, rfl⟩
    obtain ⟨lm, hlm⟩ : ∃ lm, lm = ms.length := ⟨_, rfl⟩
    have h6 := VP.enc_six (n := s.size) (by omega)
    have hle : lm ≤ 1000006 := by rw [hlm, hms, List.length_append]; omega
    rw [← hms, ← hlm] at hput
    have H := Lib.hid hput
    have HE : Hid (cells ms ++ Lib.strCells s = cells xs ∧ lm + s.size = lx) := by
      refine ⟨?_, ?_⟩
      · rw [strCells_is, ← cells_append, hxs, hms, List.append_assoc]
      · rw [hlx, hxs, hlm, hms, ← List.append_assoc, List.length_append (bs := bytesOf s), bytesOf_length]
    clear hput hxs hlx hlb h6 hms hlm
    go_enter Try.func68, Try.ntmps68
    go_wp2_with fail
    refine H.out.mono ?_
    rintro e w1 ⟨v, rfl, hown, hb⟩
    go_wp2_with (at_builtin; refine Lib.wpList_append_own_string _ rfl _ _ 42 9 rfl w.heap.size 5 i0 Try.underlying42 Try.underlying9 hi0 hz0 hz1 hz2 v _ _ rfl hown s rfl ?c1 ?c2 ?c3 ?_)
    case c1 => unfold maxLen; omega
    case c2 => omega
    case c3 => exact hb.size
    intro v' w2 hown2 hg _
    have hb2 : Below w.heap.size w w2 := hb.grown hg hb.size (fun k hk => (hown.lt k hk).1)
    rw [HE.out.1, HE.out.2] at hown2
    obtain ⟨A', c', rfl, h1, h2⟩ := own_form hown2
    clear hown hown2 hg
    go_wp2
    go_ret2
    exact ⟨A', c', rfl, h1, h2, hb2⟩
  · have h0 : lx = 0 := by simpa using hlx
    subst h0
    clear hlx hlb
    go_enter Try.func68, Try.ntmps68
    go_wp2
    go_ret2
    exact ⟨none, 0, rfl, Seen.nil _ _ _, Nat.le_refl _, Below.refl _ _⟩

/-- A flag's byte. -/
def flagByte (b : Bool) : UInt8 := if b then 1 else 0

/-- 'b[:len(b):len(b)]'. -/
theorem cut_full {w : World} {B : Nat} (hlb : lb = bs.length) (hs : Seen w B A (cells bs)) (hc : lb ≤ c) :
    ∃ D, (∀ W, (Instr.slice 42 (.slice A lb c) none (some (.int .i64 (lb : Int))) (some (.int .i64 (lb : Int)))).run Try.prog W = .ok (.slice D lb lb) W) ∧ Seen w B D (cells bs) ∧ (D = none → lb = 0) := by
  refine ⟨if lb = 0 then A else A.map (·.add (0 * 1)), fun W => ?_, ?_, ?_⟩
  · have ht' : Try.prog.underlying 42 = some (.slice (Try.prog.elem 42)) := by simp [Program.elem, Try.underlying42]
    have he : Try.prog.elem 42 = 5 := by simp [Program.elem, Try.underlying42]
    rw [run_slice_hm W 42 _ _ _ ht' .i64 .i64 _ _ (by omega) (by omega) (by omega), he, u8_size]
    simp [Result.andThen, sliced]
  · by_cases h0 : lb = 0
    · rw [if_pos h0]; exact hs
    · rw [if_neg h0]
      intro hx
      obtain ⟨b, off, rfl, h1, h2⟩ := hs hx
      exact ⟨b, off, by simp [plain_add], h1, h2⟩
  · intro hn
    by_cases h0 : lb = 0
    · exact h0
    · rw [if_neg h0] at hn
      obtain ⟨b, off, rfl, _, _⟩ := hs (by intro e; have : bs = [] := by simpa [cells] using e
                                           rw [this] at hlb; simp at hlb; exact h0 hlb)
      simp at hn

set_option maxRecDepth 100000 in
set_option maxHeartbeats 1000000 in
theorem flag_put (yes : Bool) (xs : List UInt8) (lx : Nat) (w : World) (hxs : xs = bs ++ [flagByte yes]) (hlb : lb = bs.length) (hlx : lx = lb + 1) (hs : Seen w w.heap.size A (cells bs)) (hx : lb ≤ 1000000) (hc : lb ≤ c) :
    Calls Try.prog 67 #[.slice A lb c, .bool yes] w fun e w' => ∃ A' c', e = .returned (.slice A' lx c') ∧ Seen w' w'.heap.size A' (cells xs) ∧ lx ≤ c' ∧ Below w.heap.size w w' := by
  obtain ⟨i0, hi0, hz0, hz1, hz2⟩ := info_parts u8_info
  obtain ⟨D, hcut, hsD, hDn⟩ := cut_full A c bs lb hlb hs hc
  have HB := Lib.hid hlb
  have HX := Lib.hid hxs
  have HLX := Lib.hid hlx
  have HD := Lib.hid hDn
  clear hlb hxs hlx hDn hs
  cases yes
  · have hsD1 : Seen (w.alloc (.cells #[.int .u8 0] 5)) w.heap.size D (cells bs) := hsD.below ((Below.refl _ _).alloc (Nat.le_refl _) _)
    have hbz : Below w.heap.size w (w.alloc (.cells #[.int .u8 0] 5)) := (Below.refl _ _).alloc (Nat.le_refl _) _
    go_enter Try.func67, Try.ntmps67
    go_wp2_with (at_builtin; refine wpList_append_grows _ rfl _ _ 42 rfl 5 i0 (.int .u8 0) 1 1 Try.underlying42 hi0 hz0 hz1 hz2 rfl (by decide) D lb lb (cells bs) rfl ?a1 ?a2 ?a3 ⟨w.heap.size, 0, none⟩ 1 1 [.int .u8 0] rfl rfl ?c1 ?c2 ?c3 ?c4 ?c5 ?_)
    case a1 => exact fun h => ⟨HD.out h, HD.out h⟩
    case a2 => rw [cells_length, ← HB.out, Nat.mul_one]
    case a3 =>
      intro b hb j u hu
      obtain ⟨b', off, he, _, h2⟩ := hsD1 (by intro e; rw [e] at hu; simp at hu)
      rw [hb] at he
      injection he with he
      subst he
      rw [plain_add]
      exact h2 j u hu
    case c1 => exact cell_one_new _ _ _
    case c2 => intro u hu; simp at hu; subst hu; rfl
    case c3 => omega
    case c4 => unfold maxLen; omega
    case c5 => omega
    intro v' w2 hown hg
    have hbw : Below w.heap.size w w2 := hbz.grown hg (by simp) (fun k hk => by cases hk)
    have hxl : cells bs ++ [.int .u8 0] = cells xs := by rw [HX.out, cells_append]; rfl
    rw [hxl, ← HLX.out] at hown
    obtain ⟨A', c', rfl, h1, h2⟩ := own_form hown
    clear hown hg hxl hsD1 hbz
    go_wp2
    go_ret
    exact ⟨A', c', rfl, h1, h2, hbw⟩
  · have hsD1 : Seen (w.alloc (.cells #[.int .u8 1] 5)) w.heap.size D (cells bs) := hsD.below ((Below.refl _ _).alloc (Nat.le_refl _) _)
    have hbz : Below w.heap.size w (w.alloc (.cells #[.int .u8 1] 5)) := (Below.refl _ _).alloc (Nat.le_refl _) _
    go_enter Try.func67, Try.ntmps67
    go_wp2_with (at_builtin; refine wpList_append_grows _ rfl _ _ 42 rfl 5 i0 (.int .u8 0) 1 1 Try.underlying42 hi0 hz0 hz1 hz2 rfl (by decide) D lb lb (cells bs) rfl ?a1 ?a2 ?a3 ⟨w.heap.size, 0, none⟩ 1 1 [.int .u8 1] rfl rfl ?c1 ?c2 ?c3 ?c4 ?c5 ?_)
    case a1 => exact fun h => ⟨HD.out h, HD.out h⟩
    case a2 => rw [cells_length, ← HB.out, Nat.mul_one]
    case a3 =>
      intro b hb j u hu
      obtain ⟨b', off, he, _, h2⟩ := hsD1 (by intro e; rw [e] at hu; simp at hu)
      rw [hb] at he
      injection he with he
      subst he
      rw [plain_add]
      exact h2 j u hu
    case c1 => exact cell_one_new _ _ _
    case c2 => intro u hu; simp at hu; subst hu; rfl
    case c3 => omega
    case c4 => unfold maxLen; omega
    case c5 => omega
    intro v' w2 hown hg
    have hbw : Below w.heap.size w w2 := hbz.grown hg (by simp) (fun k hk => by cases hk)
    have hxl : cells bs ++ [.int .u8 1] = cells xs := by rw [HX.out, cells_append]; rfl
    rw [hxl, ← HLX.out] at hown
    obtain ⟨A', c', rfl, h1, h2⟩ := own_form hown
    clear hown hg hxl hsD1 hbz
    go_wp2
    go_ret
    exact ⟨A', c', rfl, h1, h2, hbw⟩

end

/-- What Size of s is. -/
def SizeIs (s : ByteArray) (l : Nat) : Prop := (s.size ≤ 1024 ∧ l = (VP.enc s.size).length + s.size) ∨ (1024 < s.size ∧ l = 0)
theorem sizeIs_of (s : ByteArray) : ∃ l, SizeIs s l := by
  by_cases h : s.size ≤ 1024
  · exact ⟨_, .inl ⟨h, rfl⟩⟩
  · exact ⟨0, .inr ⟨by omega, rfl⟩⟩

/-- Len, its length under a name of its own. -/
theorem len_named (n : Nat) (xs : List UInt8) (lx : Nat) (hxs : xs = VP.enc n) (hlx : lx = xs.length) (w : World) (hn : n ≤ 1099511627776) :
    Calls Try.prog 61 #[.int .i64 (n : Int)] w fun e w' => e = .returned (.int .i64 (lx : Int)) ∧ w = w' := by
  subst hxs hlx
  exact len_yes n w hn

end Go.Proofs.Ytchpemgamgcbkaa
