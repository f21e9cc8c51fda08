/-
  Contracts of entry's writer: numbers, texts, flag. Conditions: those that each theorem names.
-/
import Derived.Test.YtchpemgamgcbkaaGreatEntStore
import Derived.Test.YtchpemgamgcbkaaGreatRecBytes
import Derived.Test.YtchpemgamgcbkaaGreatRecRead
namespace Go.Proofs.YtchpemgamgcbkaaGreat
open Go.RowKit

/-- Block g is a writer that has written ys, into memory of its own. -/
def Wt (w : World) (g : Nat) (ys : List UInt8) : Prop := ∃ v ly, Var w g 60 #[v] ∧ w.ownsRow (g + 1) 5 1 v ly (cells ys) ∧ ly = ys.length
theorem Kept.cell {S : List Nat} {w w' : World} (h : Kept S w w') {p : Addr} (hp : p.block < w.heap.size) (hn : p.block ∉ S) : w'.cell? p = w.cell? p := by simp only [World.cell?, h.block p.block hp hn]
section
variable {w w' : World} {g : Nat} {ys : List UInt8}
theorem Wt.lt (h : Wt w g ys) : g < w.heap.size := by obtain ⟨_, _, hv, _⟩ := h; exact hv.lt
theorem Wt.below (h : Wt w g ys) (hb : Below w.heap.size w w') : Wt w' g ys := by
  obtain ⟨v, ly, hv, ho, hl⟩ := h
  exact ⟨v, ly, hv.below hb hv.lt, own_next ho hb, hl⟩
/-- What the writer holds, opened. -/
theorem Wt.get (h : Wt w g ys) : ∃ A c ly, Var w g 60 #[.slice A ly c] ∧ Seen w w.heap.size A (cells ys) ∧ ly = ys.length ∧ ly ≤ c ∧ w.ownsRow (g + 1) 5 1 (.slice A ly c) ly (cells ys) := by
  obtain ⟨v, ly, hv, ho, hl⟩ := h
  obtain ⟨A, c, rfl, hs, hc⟩ := own_formN ho
  exact ⟨A, c, ly, hv, hs, hl, hc, ho⟩
/-- New memory stored into it. -/
theorem Wt.put {v0 : Value} (hv : Var w g 60 #[v0]) {v : Value} {ly : Nat} (ho : w'.ownsRow w.heap.size 5 1 v ly (cells ys)) (hb : Below w.heap.size w w') (hl : ly = ys.length) : Wt (w'.setCell ⟨g, 0, none⟩ v) g ys ∧ Kept [g] w (w'.setCell ⟨g, 0, none⟩ v) := by
  have hlt := hv.lt
  refine ⟨⟨v, ly, ?_, own_set (own_down ho (by omega)) (Nat.lt_succ_self g) _, hl⟩, (Kept.of_below hb).setCell (.inl (by simp)) _⟩
  have := (hv.below hb hlt).set 0 v
  simpa using this
end

section
variable (A : Option Addr) (c : Nat) (bs : List UInt8) (lb : Nat)
/-- fields.Number: the number behind, in memory of its own. -/
theorem num_own (n lx : Nat) (w : World) (hlb : lb = bs.length) (hlx : lx = (bs ++ VP.enc n).length) (hs : Seen w w.heap.size A (cells bs)) (hx : lb ≤ 1000000) (hn : n ≤ 1099511627776) :
    Calls Tryz.prog 57 #[.slice A lb c, .int .i64 (n : Int)] w fun e w' => ∃ v, e = .returned (.tuple #[v, .int .i64 0]) ∧ w'.ownsRow w.heap.size 5 1 v lx (cells (bs ++ VP.enc n)) ∧ Below w.heap.size w w' := by
  subst hlb hlx
  have H := Lib.hid (put_yes A c bs n w hs hx hn)
  go_enter Tryz.func57, Tryz.ntmps57
  go_wp2_with fail
  refine H.out.mono ?_
  rintro e w1 ⟨v, rfl, ho, hb⟩
  go_wp2
  go_ret2
  exact ⟨v, rfl, ho, hb⟩
set_option maxRecDepth 100000 in
set_option maxHeartbeats 1000000 in
theorem flag_own (yes : Bool) (xs : List UInt8) (lx : Nat) (w : World) (hxs : xs = bs ++ [flagByte yes]) (hlb : lb = bs.length) (hlx : lx = lb + 1) (hs : Seen w w.heap.size A (cells bs)) (hx : lb ≤ 1000000) (hc : lb ≤ c) :
    Calls Tryz.prog 102 #[.slice A lb c, .bool yes] w fun e w' => ∃ v, e = .returned v ∧ w'.ownsRow w.heap.size 5 1 v lx (cells xs) ∧ Below w.heap.size w w' := by
  obtain ⟨i0, hi0, hz0, hz1, hz2⟩ := info_parts u8_info
  obtain ⟨D, hcut, hsD, hDn⟩ := cut_full A c bs lb hlb hs hc
  have HB := Lib.hid hlb
  have HX := Lib.hid hxs
  have HLX := Lib.hid hlx
  have HD := Lib.hid hDn
  clear hlb hxs hlx hDn hs
  cases yes
  · have hsD1 : Seen (w.alloc (.cells #[.int .u8 0] 5)) w.heap.size D (cells bs) := hsD.below ((Below.refl _ _).alloc (Nat.le_refl _) _)
    have hbz : Below w.heap.size w (w.alloc (.cells #[.int .u8 0] 5)) := (Below.refl _ _).alloc (Nat.le_refl _) _
    go_enter Tryz.func102, Tryz.ntmps102
    go_wp2_with (at_builtin; refine wpList_append_grows _ rfl _ _ 58 rfl 5 i0 (.int .u8 0) 1 1 Tryz.underlying58 hi0 hz0 hz1 hz2 rfl (by decide) D lb lb (cells bs) rfl ?a1 ?a2 ?a3 ⟨w.heap.size, 0, none⟩ 1 1 [.int .u8 0] rfl rfl ?c1 ?c2 ?c3 ?c4 ?c5 ?_)
    case a1 => exact fun h => ⟨HD.out h, HD.out h⟩
    case a2 => rw [cells_length, ← HB.out, Nat.mul_one]
    case a3 =>
      intro b hb j u hu
      obtain ⟨b', off, he, _, h2⟩ := hsD1 (by intro e; rw [e] at hu; simp at hu)
      rw [hb] at he
      injection he with he
      subst he
      rw [plain_add]
      exact h2 j u hu
    case c1 => exact cell_one_new _ _ _
    case c2 => intro u hu; simp at hu; subst hu; rfl
    case c3 => omega
    case c4 => unfold maxLen; omega
    case c5 => omega
    intro v' w2 hown hg
    have hbw : Below w.heap.size w w2 := hbz.grown hg (by simp) (fun k hk => by cases hk)
    have hxl : cells bs ++ [.int .u8 0] = cells xs := by rw [HX.out, cells_append]; rfl
    rw [hxl, ← HLX.out] at hown
    have hown2 := own_down hown (base' := w.heap.size) (by simp)
    clear hown hg hxl hsD1 hbz
    go_wp2
    go_ret
    exact ⟨v', rfl, hown2, hbw⟩
  · have hsD1 : Seen (w.alloc (.cells #[.int .u8 1] 5)) w.heap.size D (cells bs) := hsD.below ((Below.refl _ _).alloc (Nat.le_refl _) _)
    have hbz : Below w.heap.size w (w.alloc (.cells #[.int .u8 1] 5)) := (Below.refl _ _).alloc (Nat.le_refl _) _
    go_enter Tryz.func102, Tryz.ntmps102
    go_wp2_with (at_builtin; refine wpList_append_grows _ rfl _ _ 58 rfl 5 i0 (.int .u8 0) 1 1 Tryz.underlying58 hi0 hz0 hz1 hz2 rfl (by decide) D lb lb (cells bs) rfl ?a1 ?a2 ?a3 ⟨w.heap.size, 0, none⟩ 1 1 [.int .u8 1] rfl rfl ?c1 ?c2 ?c3 ?c4 ?c5 ?_)
    case a1 => exact fun h => ⟨HD.out h, HD.out h⟩
    case a2 => rw [cells_length, ← HB.out, Nat.mul_one]
    case a3 =>
      intro b hb j u hu
      obtain ⟨b', off, he, _, h2⟩ := hsD1 (by intro e; rw [e] at hu; simp at hu)
      rw [hb] at he
      injection he with he
      subst he
      rw [plain_add]
      exact h2 j u hu
    case c1 => exact cell_one_new _ _ _
    case c2 => intro u hu; simp at hu; subst hu; rfl
    case c3 => omega
    case c4 => unfold maxLen; omega
    case c5 => omega
    intro v' w2 hown hg
    have hbw : Below w.heap.size w w2 := hbz.grown hg (by simp) (fun k hk => by cases hk)
    have hxl : cells bs ++ [.int .u8 1] = cells xs := by rw [HX.out, cells_append]; rfl
    rw [hxl, ← HLX.out] at hown
    have hown2 := own_down hown (base' := w.heap.size) (by simp)
    clear hown hg hxl hsD1 hbz
    go_wp2
    go_ret
    exact ⟨v', rfl, hown2, hbw⟩

set_option maxRecDepth 100000 in
set_option maxHeartbeats 1000000 in
theorem text_own (s : ByteArray) (xs : List UInt8) (lx : Nat) (w : World) (h : s.size ≤ 1024) (hxs : xs = bs ++ (VP.enc s.size ++ bytesOf s)) (hlb : lb = bs.length) (hlx : lx = xs.length) (hs : Seen w w.heap.size A (cells bs)) (hx : lb ≤ 1000000) :
    Calls Tryz.prog 103 #[.slice A lb c, .string s] w fun e w' => ∃ v, e = .returned (.tuple #[v, .int .i64 0]) ∧ w'.ownsRow w.heap.size 5 1 v lx (cells xs) ∧ Below w.heap.size w w' := by
  obtain ⟨i0, hi0, hz0, hz1, hz2⟩ := info_parts u8_info
  · have hput : Calls Tryz.prog 83 #[.slice A lb c, .int .i64 (s.size : Int)] w fun e w' => ∃ v, e = .returned (.tuple #[v, .int .i64 0]) ∧ w'.ownsRow w.heap.size 5 1 v (bs ++ VP.enc s.size).length (cells (bs ++ VP.enc s.size)) ∧ Below w.heap.size w w' := by
      have hx' : bs.length ≤ 1000000 := by omega
      subst hlb
      exact put_yes A c bs s.size w hs hx' (by omega)
    obtain ⟨ms, hms⟩ : ∃ ms, ms = bs ++ VP.enc s.size := ⟨_, rfl⟩
    obtain ⟨lm, hlm⟩ : ∃ lm, lm = ms.length := ⟨_, rfl⟩
    have h6 := VP.enc_six (n := s.size) (by omega)
    have hle : lm ≤ 1000006 := by rw [hlm, hms, List.length_append]; omega
    rw [← hms, ← hlm] at hput
    have H := Lib.hid hput
    have HE : Hid (cells ms ++ Lib.strCells s = cells xs ∧ lm + s.size = lx) := by
      refine ⟨?_, ?_⟩
      · rw [strCells_is, ← cells_append, hxs, hms, List.append_assoc]
      · rw [hlx, hxs, hlm, hms, ← List.append_assoc, List.length_append (bs := bytesOf s), bytesOf_length]
    clear hput hxs hlx hlb h6 hms hlm
    go_enter Tryz.func103, Tryz.ntmps103
    go_wp2_with fail
    refine H.out.mono ?_
    rintro e w1 ⟨v, rfl, hown, hb⟩
    go_wp2_with (at_builtin; refine Lib.wpList_append_own_string _ rfl _ _ 58 9 rfl w.heap.size 5 i0 Tryz.underlying58 Tryz.underlying9 hi0 hz0 hz1 hz2 v _ _ rfl hown s rfl ?c1 ?c2 ?c3 ?_)
    case c1 => unfold maxLen; omega
    case c2 => omega
    case c3 => exact hb.size
    intro v' w2 hown2 hg _
    have hb2 : Below w.heap.size w w2 := hb.grown hg hb.size (fun k hk => (hown.lt k hk).1)
    rw [HE.out.1, HE.out.2] at hown2
    clear hown hg
    go_wp2
    go_ret2
    exact ⟨v', rfl, hown2, hb2⟩
end

def icells (l : List Nat) : List Value := l.map fun (n : Nat) => Value.int .i64 (n : Int)
theorem icells_at {w : World} {B : Nat} {A : Option Addr} {l : List Nat} {k n : Nat} (h : Seen w B A (icells l)) (hk : l[k]? = some n) : ∃ b off, A = some ⟨b, off, none⟩ ∧ b < B ∧ w.cell? ⟨b, off + k, none⟩ = some (.int .i64 (n : Int)) := by
  have hi : (icells l)[k]? = some (.int .i64 (n : Int)) := by simp [icells, hk]
  obtain ⟨b, off, rfl, hb, hc⟩ := h (by intro e; rw [e] at hi; simp at hi)
  exact ⟨b, off, rfl, hb, hc k _ hi⟩
def tcells (l : List ByteArray) : List Value := l.map fun s => .string s
theorem tcells_at {w : World} {B : Nat} {A : Option Addr} {l : List ByteArray} {k : Nat} {s : ByteArray} (h : Seen w B A (tcells l)) (hk : l[k]? = some s) : ∃ b off, A = some ⟨b, off, none⟩ ∧ b < B ∧ w.cell? ⟨b, off + k, none⟩ = some (.string s) := by
  have hi : (tcells l)[k]? = some (.string s) := by simp [tcells, hk]
  obtain ⟨b, off, rfl, hb, hc⟩ := h (by intro e; rw [e] at hi; simp at hi)
  exact ⟨b, off, rfl, hb, hc k _ hi⟩
def encT (l : List ByteArray) : List UInt8 := l.flatMap fun s => VP.enc s.size ++ bytesOf s
theorem encT_step {l : List ByteArray} {k : Nat} {x : ByteArray} (h : l[k]? = some x) : encT (l.take (k + 1)) = encT (l.take k) ++ (VP.enc x.size ++ bytesOf x) := by
  rw [List.take_add_one, h]
  simp [encT]
/-- What a writer's methods hand back. -/
def WRes (w : World) (g : Nat) (ys : List UInt8) (e : Ending) (w' : World) : Prop := e = .returned (.tuple #[]) ∧ Wt w' g ys ∧ Kept [g] w w'

set_option maxRecDepth 100000 in
set_option maxHeartbeats 1000000 in
theorem numbers_any (g : Nat) (ys : List UInt8) (A : Option Addr) (n c B : Nat) (l : List Nat) (w : World) (hw : Wt w g ys) (hn : l.length = n) (hs : Seen w B A (icells l)) (hB : B ≤ w.heap.size) (hg : ∀ b off, A = some ⟨b, off, none⟩ → b ≠ g) (hl : ∀ x ∈ l, x ≤ 1099511627776) (h4 : n ≤ 4) (hy : ys.length ≤ 900) :
    Calls Tryz.prog 27 #[.pointer (some ⟨g, 0, none⟩), .slice A n c] w (WRes w g (ys ++ encN l)) := by
  have HN := Lib.hid hn
  have HL := Lib.hid hl
  have hgw := hw.lt
  clear hn hl
  go_enter Tryz.func27, Tryz.ntmps27
  go_wp2
  go_loopw [8] (fun i wr => ∃ (k : Nat), k ≤ n ∧ i = .int .i64 k ∧ Wt wr g (ys ++ encN (l.take k)) ∧ Kept [g] w wr ∧ Hid ((ys ++ encN (l.take k)).length ≤ ys.length + 6 * k)) (fun i _ => n - (intOf i).toNat)
  case atStart => exact ⟨0, by omega, rfl, by simpa [encN] using hw, Kept.refl _ _, by show _ ≤ _; simp [encN]⟩
  case round =>
    obtain ⟨k, hk, rfl, hwk, hkp, HLE⟩ := hrel
    by_cases hlt : k < n
    · obtain ⟨x, hx⟩ : ∃ x, l[k]? = some x := ⟨_, List.getElem?_eq_getElem (by have := HN.out; omega)⟩
      have hx40 := HL.out x (List.mem_of_getElem? hx)
      have HS := Lib.hid (encN_step hx)
      obtain ⟨b, off, rfl, hb, hc⟩ := icells_at (l := l) (w := wr) (B := B) (A := A) (fun hne => by
        obtain ⟨b, off, hA, hb, hc⟩ := hs hne
        exact ⟨b, off, hA, hb, fun j u hu => by rw [hkp.cell (by simp only; omega) (by simp; exact hg b off hA)]; exact hc j u hu⟩) hx
      obtain ⟨A2, c2, ly, hv, hs2, hly, hc2, -⟩ := hwk.get
      have hgr := hv.lt
      have hbw : b < wr.heap.size := by have := hkp.size; omega
      have hlyb : ly ≤ 1000 := by have := HLE.out; omega
      obtain ⟨p0, hf0⟩ : wr.cell? ⟨g, 0, none⟩ = some (.slice A2 ly c2) ∧ wr.frozen? ⟨g, 0, none⟩ = false := ⟨hv.cell 0 rfl, hv.free 0⟩
      have HLY := Lib.hid hly
      have H6 := Lib.hid (VP.enc_six hx40)
      clear hx hly hwk
      obtain ⟨lx, hlx⟩ : ∃ lx, lx = (ys ++ encN (l.take k) ++ VP.enc x).length := ⟨_, rfl⟩
      have HLX := Lib.hid hlx
      clear hlx
      go_wp2_with fail
      refine (num_own A2 c2 _ ly x lx wr HLY.out HLX.out hs2 (by omega) hx40).mono ?_
      rintro e w3 ⟨v3, rfl, ho3, hb3⟩
      obtain ⟨A3, c3, rfl, -, -⟩ := own_formN ho3
      obtain ⟨h1, h2⟩ := Wt.put hv ho3 hb3 HLX.out
      have hf3 : w3.frozen? ⟨g, 0, none⟩ = false := (hv.below hb3 hgr).free 0
      have hc3 : w3.cell? ⟨g, 0, none⟩ = some (.slice A2 ly c2) := (hv.below hb3 hgr).cell 0 rfl
      have hg3 : g < w3.heap.size := by have := hb3.size; omega
      rw [List.append_assoc, ← HS.out] at h1
      clear hs2 ho3 hc p0 hf0
      go_wp2
      go_roundw
      case rel => exact ⟨k + 1, by omega, by go_num, h1, hkp.trans h2, by show _ ≤ _; have := HLE.out; have := H6.out; rw [HS.out]; simp only [List.length_append] at *; omega⟩
      case measure => simp [intOf]; omega
    · have hkn : k = n := by omega
      subst hkn
      rw [List.take_of_length_le (by have := HN.out; omega)] at hwk
      go_wp2
      refine bodyPost_end (results_none rfl _ _ _) rfl ?_
      exact ⟨rfl, hwk, hkp⟩

set_option maxRecDepth 100000 in
set_option maxHeartbeats 1000000 in
theorem texts_any (g : Nat) (ys : List UInt8) (A : Option Addr) (n c B : Nat) (l : List ByteArray) (w : World) (hw : Wt w g ys) (hn : l.length = n) (hs : Seen w B A (tcells l)) (hB : B ≤ w.heap.size) (hg : ∀ b off, A = some ⟨b, off, none⟩ → b ≠ g) (hl : ∀ x ∈ l, x.size ≤ 16) (h4 : n ≤ 4) (hy : ys.length ≤ 900) :
    Calls Tryz.prog 90 #[.pointer (some ⟨g, 0, none⟩), .slice A n c] w (WRes w g (ys ++ encT l)) := by
  have HN := Lib.hid hn
  have HL := Lib.hid hl
  have hgw := hw.lt
  clear hn hl
  go_enter Tryz.func90, Tryz.ntmps90
  go_wp2
  go_loopw [8] (fun i wr => ∃ (k : Nat), k ≤ n ∧ i = .int .i64 k ∧ Wt wr g (ys ++ encT (l.take k)) ∧ Kept [g] w wr ∧ Hid ((ys ++ encT (l.take k)).length ≤ ys.length + 17 * k)) (fun i _ => n - (intOf i).toNat)
  case atStart => exact ⟨0, by omega, rfl, by simpa [encT] using hw, Kept.refl _ _, by show _ ≤ _; simp [encT]⟩
  case round =>
    obtain ⟨k, hk, rfl, hwk, hkp, HLE⟩ := hrel
    by_cases hlt : k < n
    · obtain ⟨x, hx⟩ : ∃ x, l[k]? = some x := ⟨_, List.getElem?_eq_getElem (by have := HN.out; omega)⟩
      have hx16 := HL.out x (List.mem_of_getElem? hx)
      have HS := Lib.hid (encT_step hx)
      obtain ⟨b, off, rfl, hb, hc⟩ := tcells_at (l := l) (w := wr) (B := B) (A := A) (fun hne => by
        obtain ⟨b, off, hA, hb, hc⟩ := hs hne
        exact ⟨b, off, hA, hb, fun j u hu => by rw [hkp.cell (by simp only; omega) (by simp; exact hg b off hA)]; exact hc j u hu⟩) hx
      obtain ⟨A2, c2, ly, hv, hs2, hly, hc2, -⟩ := hwk.get
      have hgr := hv.lt
      have hbw : b < wr.heap.size := by have := hkp.size; omega
      have hlyb : ly ≤ 1000 := by have := HLE.out; omega
      obtain ⟨p0, hf0⟩ : wr.cell? ⟨g, 0, none⟩ = some (.slice A2 ly c2) ∧ wr.frozen? ⟨g, 0, none⟩ = false := ⟨hv.cell 0 rfl, hv.free 0⟩
      have HLY := Lib.hid hly
      have H6 : Hid ((VP.enc x.size ++ bytesOf x).length ≤ 17) := by
        have := VP.enc_le 1 x.size (by omega) (by omega)
        show _ ≤ _
        rw [List.length_append, bytesOf_length]
        omega
      clear hx hly hwk
      obtain ⟨lx, hlx⟩ : ∃ lx, lx = (ys ++ encT (l.take k) ++ (VP.enc x.size ++ bytesOf x)).length := ⟨_, rfl⟩
      have HLX := Lib.hid hlx
      clear hlx
      go_wp2_with fail
      refine (text_own A2 c2 _ ly x _ lx wr (by omega) rfl HLY.out HLX.out hs2 (by omega)).mono ?_
      rintro e w3 ⟨v3, rfl, ho3, hb3⟩
      obtain ⟨A3, c3, rfl, -, -⟩ := own_formN ho3
      obtain ⟨h1, h2⟩ := Wt.put hv ho3 hb3 HLX.out
      have hf3 : w3.frozen? ⟨g, 0, none⟩ = false := (hv.below hb3 hgr).free 0
      have hc3 : w3.cell? ⟨g, 0, none⟩ = some (.slice A2 ly c2) := (hv.below hb3 hgr).cell 0 rfl
      have hg3 : g < w3.heap.size := by have := hb3.size; omega
      rw [List.append_assoc, ← HS.out] at h1
      clear hs2 ho3 hc p0 hf0
      go_wp2
      go_roundw
      case rel => exact ⟨k + 1, by omega, by go_num, h1, hkp.trans h2, by show _ ≤ _; have := HLE.out; have := H6.out; rw [HS.out]; simp only [List.length_append] at *; omega⟩
      case measure => simp [intOf]; omega
    · have hkn : k = n := by omega
      subst hkn
      rw [List.take_of_length_le (by have := HN.out; omega)] at hwk
      go_wp2
      refine bodyPost_end (results_none rfl _ _ _) rfl ?_
      exact ⟨rfl, hwk, hkp⟩

set_option maxRecDepth 100000 in
theorem wflag_any (g : Nat) (ys : List UInt8) (yes : Bool) (w : World) (hw : Wt w g ys) (hy : ys.length ≤ 900) :
    Calls Tryz.prog 86 #[.pointer (some ⟨g, 0, none⟩), .bool yes] w (WRes w g (ys ++ [flagByte yes])) := by
  obtain ⟨A2, c2, ly, hv, hs2, hly, hc2, -⟩ := hw.get
  have hgr := hv.lt
  have hlyb : ly ≤ 1000 := by omega
  obtain ⟨p0, hf0⟩ : w.cell? ⟨g, 0, none⟩ = some (.slice A2 ly c2) ∧ w.frozen? ⟨g, 0, none⟩ = false := ⟨hv.cell 0 rfl, hv.free 0⟩
  have HLY := Lib.hid hly
  clear hly
  go_enter Tryz.func86, Tryz.ntmps86
  go_wp2_with fail
  refine (flag_own A2 c2 ys ly yes _ (ly + 1) w rfl HLY.out rfl hs2 (by omega) hc2).mono ?_
  rintro e w3 ⟨v3, rfl, ho3, hb3⟩
  obtain ⟨A3, c3, rfl, -, -⟩ := own_formN ho3
  obtain ⟨h1, h2⟩ := Wt.put hv ho3 hb3 (by rw [List.length_append, ← HLY.out]; rfl)
  have hf3 : w3.frozen? ⟨g, 0, none⟩ = false := (hv.below hb3 hgr).free 0
  have hc3 : w3.cell? ⟨g, 0, none⟩ = some (.slice A2 ly c2) := (hv.below hb3 hgr).cell 0 rfl
  have hg3 : g < w3.heap.size := by have := hb3.size; omega
  clear hs2 ho3 p0 hf0
  go_wp2
  refine bodyPost_end (results_none rfl _ _ _) rfl ?_
  exact ⟨rfl, h1, h2⟩
end Go.Proofs.YtchpemgamgcbkaaGreat
