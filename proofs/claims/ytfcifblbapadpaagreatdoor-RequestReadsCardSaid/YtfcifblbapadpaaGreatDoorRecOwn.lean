/-
  Numbers, flags and texts put behind bytes into memory of the call's own; numbers and texts as cells. Conditions: those that each theorem names.
-/
import Derived.Test.YtfcifblbapadpaaGreatDoorRecStore
import Derived.Test.YtfcifblbapadpaaGreatDoorRecBytes
import Derived.Test.YtfcifblbapadpaaGreatDoorRecRead
namespace Go.Proofs.YtfcifblbapadpaaGreatDoor
open Go.RowKit

theorem Kept.cell {S : List Nat} {w w' : World} (h : Kept S w w') {p : Addr} (hp : p.block < w.heap.size) (hn : p.block ∉ S) : w'.cell? p = w.cell? p := by simp only [World.cell?, h.block p.block hp hn]

section
variable (A : Option Addr) (c : Nat) (bs : List UInt8) (lb : Nat)
/-- fields.Number: the number behind, in memory of its own. -/
theorem num_own (n lx : Nat) (w : World) (hlb : lb = bs.length) (hlx : lx = (bs ++ VP.enc n).length) (hs : Seen w w.heap.size A (cells bs)) (hx : lb ≤ 1000000) (hn : n ≤ 1099511627776) :
    Calls Tryz.prog 51 #[.slice A lb c, .int .i64 (n : Int)] w fun e w' => ∃ v, e = .returned (.tuple #[v, .int .i64 0]) ∧ w'.ownsRow w.heap.size 5 1 v lx (cells (bs ++ VP.enc n)) ∧ Below w.heap.size w w' := by
  subst hlb hlx
  have H := Lib.hid (put_yes A c bs n w hs hx hn)
  go_enter Tryz.func51, Tryz.ntmps51
  go_wp2_with fail
  refine H.out.mono ?_
  rintro e w1 ⟨v, rfl, ho, hb⟩
  go_wp2
  go_ret2
  exact ⟨v, rfl, ho, hb⟩
set_option maxRecDepth 100000 in
set_option maxHeartbeats 1000000 in
theorem flag_own (yes : Bool) (xs : List UInt8) (lx : Nat) (w : World) (hxs : xs = bs ++ [flagByte yes]) (hlb : lb = bs.length) (hlx : lx = lb + 1) (hs : Seen w w.heap.size A (cells bs)) (hx : lb ≤ 1000000) (hc : lb ≤ c) :
    Calls Tryz.prog 54 #[.slice A lb c, .bool yes] w fun e w' => ∃ v, e = .returned v ∧ w'.ownsRow w.heap.size 5 1 v lx (cells xs) ∧ Below w.heap.size w w' := by
  obtain ⟨i0, hi0, hz0, hz1, hz2⟩ := info_parts u8_info
  obtain ⟨D, hcut, hsD, hDn⟩ := cut_full A c bs lb hlb hs hc
  have HB := Lib.hid hlb
  have HX := Lib.hid hxs
  have HLX := Lib.hid hlx
  have HD := Lib.hid hDn
  clear hlb hxs hlx hDn hs
  cases yes
  · have hsD1 : Seen (w.alloc (.cells #[.int .u8 0] 5)) w.heap.size D (cells bs) := hsD.below ((Below.refl _ _).alloc (Nat.le_refl _) _)
    have hbz : Below w.heap.size w (w.alloc (.cells #[.int .u8 0] 5)) := (Below.refl _ _).alloc (Nat.le_refl _) _
    go_enter Tryz.func54, Tryz.ntmps54
    go_wp2_with (at_builtin; refine wpList_append_grows _ rfl _ _ 22 rfl 5 i0 (.int .u8 0) 1 1 Tryz.underlying22 hi0 hz0 hz1 hz2 rfl (by decide) D lb lb (cells bs) rfl ?a1 ?a2 ?a3 ⟨w.heap.size, 0, none⟩ 1 1 [.int .u8 0] rfl rfl ?c1 ?c2 ?c3 ?c4 ?c5 ?_)
    case a1 => exact fun h => ⟨HD.out h, HD.out h⟩
    case a2 => rw [cells_length, ← HB.out, Nat.mul_one]
    case a3 =>
      intro b hb j u hu
      obtain ⟨b', off, he, _, h2⟩ := hsD1 (by intro e; rw [e] at hu; simp at hu)
      rw [hb] at he
      injection he with he
      subst he
      rw [plain_add]
      exact h2 j u hu
    case c1 => exact cell_one_new _ _ _
    case c2 => intro u hu; simp at hu; subst hu; rfl
    case c3 => omega
    case c4 => unfold maxLen; omega
    case c5 => omega
    intro v' w2 hown hg
    have hbw : Below w.heap.size w w2 := hbz.grown hg (by simp) (fun k hk => by cases hk)
    have hxl : cells bs ++ [.int .u8 0] = cells xs := by rw [HX.out, cells_append]; rfl
    rw [hxl, ← HLX.out] at hown
    have hown2 := own_down hown (base' := w.heap.size) (by simp)
    clear hown hg hxl hsD1 hbz
    go_wp2
    go_ret
    exact ⟨v', rfl, hown2, hbw⟩
  · have hsD1 : Seen (w.alloc (.cells #[.int .u8 1] 5)) w.heap.size D (cells bs) := hsD.below ((Below.refl _ _).alloc (Nat.le_refl _) _)
    have hbz : Below w.heap.size w (w.alloc (.cells #[.int .u8 1] 5)) := (Below.refl _ _).alloc (Nat.le_refl _) _
    go_enter Tryz.func54, Tryz.ntmps54
    go_wp2_with (at_builtin; refine wpList_append_grows _ rfl _ _ 22 rfl 5 i0 (.int .u8 0) 1 1 Tryz.underlying22 hi0 hz0 hz1 hz2 rfl (by decide) D lb lb (cells bs) rfl ?a1 ?a2 ?a3 ⟨w.heap.size, 0, none⟩ 1 1 [.int .u8 1] rfl rfl ?c1 ?c2 ?c3 ?c4 ?c5 ?_)
    case a1 => exact fun h => ⟨HD.out h, HD.out h⟩
    case a2 => rw [cells_length, ← HB.out, Nat.mul_one]
    case a3 =>
      intro b hb j u hu
      obtain ⟨b', off, he, _, h2⟩ := hsD1 (by intro e; rw [e] at hu; simp at hu)
      rw [hb] at he
      injection he with he
      subst he
      rw [plain_add]
      exact h2 j u hu
    case c1 => exact cell_one_new _ _ _
    case c2 => intro u hu; simp at hu; subst hu; rfl
    case c3 => omega
    case c4 => unfold maxLen; omega
    case c5 => omega
    intro v' w2 hown hg
    have hbw : Below w.heap.size w w2 := hbz.grown hg (by simp) (fun k hk => by cases hk)
    have hxl : cells bs ++ [.int .u8 1] = cells xs := by rw [HX.out, cells_append]; rfl
    rw [hxl, ← HLX.out] at hown
    have hown2 := own_down hown (base' := w.heap.size) (by simp)
    clear hown hg hxl hsD1 hbz
    go_wp2
    go_ret
    exact ⟨v', rfl, hown2, hbw⟩

set_option maxRecDepth 100000 in
set_option maxHeartbeats 1000000 in
theorem text_own (s : ByteArray) (xs : List UInt8) (lx : Nat) (w : World) (h : s.size ≤ 1024) (hxs : xs = bs ++ (VP.enc s.size ++ bytesOf s)) (hlb : lb = bs.length) (hlx : lx = xs.length) (hs : Seen w w.heap.size A (cells bs)) (hx : lb ≤ 1000000) :
    Calls Tryz.prog 53 #[.slice A lb c, .string s] w fun e w' => ∃ v, e = .returned (.tuple #[v, .int .i64 0]) ∧ w'.ownsRow w.heap.size 5 1 v lx (cells xs) ∧ Below w.heap.size w w' := by
  obtain ⟨i0, hi0, hz0, hz1, hz2⟩ := info_parts u8_info
  · have hput : Calls Tryz.prog 66 #[.slice A lb c, .int .i64 (s.size : Int)] w fun e w' => ∃ v, e = .returned (.tuple #[v, .int .i64 0]) ∧ w'.ownsRow w.heap.size 5 1 v (bs ++ VP.enc s.size).length (cells (bs ++ VP.enc s.size)) ∧ Below w.heap.size w w' := by
      have hx' : bs.length ≤ 1000000 := by omega
      subst hlb
      exact put_yes A c bs s.size w hs hx' (by omega)
    obtain ⟨ms, hms⟩ : ∃ ms, ms = bs ++ VP.enc s.size := ⟨_, rfl⟩
    obtain ⟨lm, hlm⟩ : ∃ lm, lm = ms.length := ⟨_, rfl⟩
    have h6 := VP.enc_six (n := s.size) (by omega)
    have hle : lm ≤ 1000006 := by rw [hlm, hms, List.length_append]; omega
    rw [← hms, ← hlm] at hput
    have H := Lib.hid hput
    have HE : Hid (cells ms ++ Lib.strCells s = cells xs ∧ lm + s.size = lx) := by
      refine ⟨?_, ?_⟩
      · rw [strCells_is, ← cells_append, hxs, hms, List.append_assoc]
      · rw [hlx, hxs, hlm, hms, ← List.append_assoc, List.length_append (bs := bytesOf s), bytesOf_length]
    clear hput hxs hlx hlb h6 hms hlm
    go_enter Tryz.func53, Tryz.ntmps53
    go_wp2_with fail
    refine H.out.mono ?_
    rintro e w1 ⟨v, rfl, hown, hb⟩
    go_wp2_with (at_builtin; refine Lib.wpList_append_own_string _ rfl _ _ 22 9 rfl w.heap.size 5 i0 Tryz.underlying22 Tryz.underlying9 hi0 hz0 hz1 hz2 v _ _ rfl hown s rfl ?c1 ?c2 ?c3 ?_)
    case c1 => unfold maxLen; omega
    case c2 => omega
    case c3 => exact hb.size
    intro v' w2 hown2 hg _
    have hb2 : Below w.heap.size w w2 := hb.grown hg hb.size (fun k hk => (hown.lt k hk).1)
    rw [HE.out.1, HE.out.2] at hown2
    clear hown hg
    go_wp2
    go_ret2
    exact ⟨v', rfl, hown2, hb2⟩
end

def icells (l : List Nat) : List Value := l.map fun (n : Nat) => Value.int .i64 (n : Int)
theorem icells_at {w : World} {B : Nat} {A : Option Addr} {l : List Nat} {k n : Nat} (h : Seen w B A (icells l)) (hk : l[k]? = some n) : ∃ b off, A = some ⟨b, off, none⟩ ∧ b < B ∧ w.cell? ⟨b, off + k, none⟩ = some (.int .i64 (n : Int)) := by
  have hi : (icells l)[k]? = some (.int .i64 (n : Int)) := by simp [icells, hk]
  obtain ⟨b, off, rfl, hb, hc⟩ := h (by intro e; rw [e] at hi; simp at hi)
  exact ⟨b, off, rfl, hb, hc k _ hi⟩
def tcells (l : List ByteArray) : List Value := l.map fun s => .string s
theorem tcells_at {w : World} {B : Nat} {A : Option Addr} {l : List ByteArray} {k : Nat} {s : ByteArray} (h : Seen w B A (tcells l)) (hk : l[k]? = some s) : ∃ b off, A = some ⟨b, off, none⟩ ∧ b < B ∧ w.cell? ⟨b, off + k, none⟩ = some (.string s) := by
  have hi : (tcells l)[k]? = some (.string s) := by simp [tcells, hk]
  obtain ⟨b, off, rfl, hb, hc⟩ := h (by intro e; rw [e] at hi; simp at hi)
  exact ⟨b, off, rfl, hb, hc k _ hi⟩
def encT (l : List ByteArray) : List UInt8 := l.flatMap fun s => VP.enc s.size ++ bytesOf s
theorem encT_step {l : List ByteArray} {k : Nat} {x : ByteArray} (h : l[k]? = some x) : encT (l.take (k + 1)) = encT (l.take k) ++ (VP.enc x.size ++ bytesOf x) := by
  rw [List.take_add_one, h]
  simp [encT]
end Go.Proofs.YtfcifblbapadpaaGreatDoor
