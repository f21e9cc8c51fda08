/-
  Contracts of request's writer: numbers, right or not, a flag, a batch. Conditions: those that each theorem names.
-/
import Derived.Test.YtfcifblbapadpaaGreatDoorReqMem
namespace Go.Proofs.YtfcifblbapadpaaGreatDoor
open Go.RowKit

/-- Block g is a writer that has written ys, into memory of its own. -/
def Wq (w : World) (g : Nat) (ys : List UInt8) : Prop := ∃ v ly, Var w g 74 #[v] ∧ w.ownsRow (g + 1) 5 1 v ly (cells ys) ∧ ly = ys.length
section
variable {w w' : World} {g : Nat} {ys : List UInt8}
theorem Wq.lt (h : Wq w g ys) : g < w.heap.size := by obtain ⟨_, _, hv, _⟩ := h; exact hv.lt
theorem Wq.below (h : Wq w g ys) (hb : Below w.heap.size w w') : Wq w' g ys := by
  obtain ⟨v, ly, hv, ho, hl⟩ := h
  exact ⟨v, ly, hv.below hb hv.lt, own_next ho hb, hl⟩
theorem Wq.get (h : Wq w g ys) : ∃ A c ly, Var w g 74 #[.slice A ly c] ∧ Seen w w.heap.size A (cells ys) ∧ ly = ys.length ∧ ly ≤ c ∧ w.ownsRow (g + 1) 5 1 (.slice A ly c) ly (cells ys) := by
  obtain ⟨v, ly, hv, ho, hl⟩ := h
  obtain ⟨A, c, rfl, hs, hc⟩ := own_formN ho
  exact ⟨A, c, ly, hv, hs, hl, hc, ho⟩
theorem Wq.put {v0 : Value} (hv : Var w g 74 #[v0]) {v : Value} {ly : Nat} (ho : w'.ownsRow w.heap.size 5 1 v ly (cells ys)) (hb : Below w.heap.size w w') (hl : ly = ys.length) : Wq (w'.setCell ⟨g, 0, none⟩ v) g ys ∧ Kept [g] w (w'.setCell ⟨g, 0, none⟩ v) := by
  have hlt := hv.lt
  refine ⟨⟨v, ly, ?_, own_set (own_down ho (by omega)) (Nat.lt_succ_self g) _, hl⟩, (Kept.of_below hb).setCell (.inl (by simp)) _⟩
  have := (hv.below hb hlt).set 0 v
  simpa using this
end
/-- What a writer's methods hand back. -/
def QRes (w : World) (g : Nat) (ys : List UInt8) (e : Ending) (w' : World) : Prop := e = .returned (.tuple #[]) ∧ Wq w' g ys ∧ Kept [g] w w'

set_option maxRecDepth 100000 in
set_option maxHeartbeats 1000000 in
theorem qnumbers_any (g : Nat) (ys : List UInt8) (A : Option Addr) (n c B : Nat) (l : List Int) (w : World) (hw : Wq w g ys) (hn : l.length = n) (hs : Seen w B A (jcells l)) (hB : B ≤ w.heap.size) (hg : ∀ b off, A = some ⟨b, off, none⟩ → b ≠ g) (h4 : n ≤ 4) (hy : ys.length ≤ 900) :
    Calls Tryz.prog 30 #[.pointer (some ⟨g, 0, none⟩), .slice A n c] w (QRes w g (puts ys l)) := by
  have HN := Lib.hid hn
  have hgw := hw.lt
  clear hn
  go_enter Tryz.func30, Tryz.ntmps30
  go_wp2
  go_loopw [8] (fun i wr => ∃ (k : Nat), k ≤ n ∧ i = .int .i64 k ∧ Wq wr g (puts ys (l.take k)) ∧ Kept [g] w wr ∧ Hid ((puts ys (l.take k)).length ≤ ys.length + 6 * k)) (fun i _ => n - (intOf i).toNat)
  case atStart => exact ⟨0, by omega, rfl, by simpa [puts] using hw, Kept.refl _ _, by show _ ≤ _; simp [puts]⟩
  case round =>
    obtain ⟨k, hk, rfl, hwk, hkp, HLE⟩ := hrel
    by_cases hlt : k < n
    · obtain ⟨x, hx⟩ : ∃ x, l[k]? = some x := ⟨_, List.getElem?_eq_getElem (by have := HN.out; omega)⟩
      have HS := Lib.hid (puts_step (ys := ys) hx)
      obtain ⟨b, off, rfl, hb, hc⟩ := jcells_at (l := l) (w := wr) (B := B) (A := A) (fun hne => by
        obtain ⟨b, off, hA, hb, hc⟩ := hs hne
        exact ⟨b, off, hA, hb, fun j u hu => by rw [hkp.cell (by simp only; omega) (by simp; exact hg b off hA)]; exact hc j u hu⟩) hx
      obtain ⟨A2, c2, ly, hv, hs2, hly, hc2, -⟩ := hwk.get
      have hgr := hv.lt
      have hbw : b < wr.heap.size := by have := hkp.size; omega
      have hlyb : ly ≤ 1000 := by have := HLE.out; omega
      obtain ⟨p0, hf0⟩ : wr.cell? ⟨g, 0, none⟩ = some (.slice A2 ly c2) ∧ wr.frozen? ⟨g, 0, none⟩ = false := ⟨hv.cell 0 rfl, hv.free 0⟩
      have HLY := Lib.hid hly
      have H6 := Lib.hid (put_le (puts ys (l.take k)) x)
      clear hx hly hwk
      obtain ⟨lx, hlx⟩ : ∃ lx, lx = (put (puts ys (l.take k)) x).length := ⟨_, rfl⟩
      have HLX := Lib.hid hlx
      clear hlx
      go_wp2_with fail
      refine (num_put_own A2 c2 _ ly x lx wr HLY.out HLX.out hs2 (by omega)).mono ?_
      rintro e w3 ⟨v3, er, rfl, ho3, hb3⟩
      obtain ⟨A3, c3, rfl, -, -⟩ := own_formN ho3
      obtain ⟨h1, h2⟩ := Wq.put hv ho3 hb3 HLX.out
      have hf3 : w3.frozen? ⟨g, 0, none⟩ = false := (hv.below hb3 hgr).free 0
      have hc3 : w3.cell? ⟨g, 0, none⟩ = some (.slice A2 ly c2) := (hv.below hb3 hgr).cell 0 rfl
      have hg3 : g < w3.heap.size := by have := hb3.size; omega
      rw [← HS.out] at h1
      clear hs2 ho3 hc p0 hf0
      go_wp2
      go_roundw
      case rel => exact ⟨k + 1, by omega, by go_num, h1, hkp.trans h2, by show _ ≤ _; have := HLE.out; have := H6.out; rw [HS.out]; omega⟩
      case measure => simp [intOf]; omega
    · have hkn : k = n := by omega
      subst hkn
      rw [List.take_of_length_le (by have := HN.out; omega)] at hwk
      go_wp2
      refine bodyPost_end (results_none rfl _ _ _) rfl ?_
      exact ⟨rfl, hwk, hkp⟩
theorem qnumbers_new (W0 : World) (g : Nat) (ys : List UInt8) (l : List Int) (n : Nat) (hw : Wq W0 g ys) (hn : l.length = n) (h4 : n ≤ 4) (hy : ys.length ≤ 900) :
    Calls Tryz.prog 30 #[.pointer (some ⟨g, 0, none⟩), .slice (some ⟨W0.heap.size, 0, none⟩) n n] (W0.alloc (.cells (jcells l).toArray 3)) (QRes W0 g (puts ys l)) := by
  have hb := below_new (w := W0) (.cells (jcells l).toArray 3)
  refine (qnumbers_any g ys _ n n (W0.heap.size + 1) l _ (hw.below hb) hn (fun _ => ⟨W0.heap.size, 0, rfl, Nat.lt_succ_self _, fun j u hu => ?_⟩) (by rw [World.size_alloc]; exact Nat.le_refl _) (fun b off h => by injection h with h; injection h with h1 _ _; have := hw.lt; omega) h4 hy).mono ?_
  · rw [Nat.zero_add]
    exact (Var.new W0 (jcells l).toArray 3).cell j (by simpa using hu)
  · rintro e w' ⟨h1, h2, h3⟩
    exact ⟨h1, h2, (Kept.of_below hb).trans h3⟩

set_option maxRecDepth 100000 in
theorem qflag_any (g : Nat) (ys : List UInt8) (yes : Bool) (w : World) (hw : Wq w g ys) (hy : ys.length ≤ 900) :
    Calls Tryz.prog 32 #[.pointer (some ⟨g, 0, none⟩), .bool yes] w (QRes w g (ys ++ [flagByte yes])) := by
  obtain ⟨A2, c2, ly, hv, hs2, hly, hc2, -⟩ := hw.get
  have hgr := hv.lt
  have hlyb : ly ≤ 1000 := by omega
  obtain ⟨p0, hf0⟩ : w.cell? ⟨g, 0, none⟩ = some (.slice A2 ly c2) ∧ w.frozen? ⟨g, 0, none⟩ = false := ⟨hv.cell 0 rfl, hv.free 0⟩
  have HLY := Lib.hid hly
  clear hly
  go_enter Tryz.func32, Tryz.ntmps32
  go_wp2_with fail
  refine (flag_own A2 c2 ys ly yes _ (ly + 1) w rfl HLY.out rfl hs2 (by omega) hc2).mono ?_
  rintro e w3 ⟨v3, rfl, ho3, hb3⟩
  obtain ⟨A3, c3, rfl, -, -⟩ := own_formN ho3
  obtain ⟨h1, h2⟩ := Wq.put hv ho3 hb3 (by rw [List.length_append, ← HLY.out]; rfl)
  have hf3 : w3.frozen? ⟨g, 0, none⟩ = false := (hv.below hb3 hgr).free 0
  have hc3 : w3.cell? ⟨g, 0, none⟩ = some (.slice A2 ly c2) := (hv.below hb3 hgr).cell 0 rfl
  have hg3 : g < w3.heap.size := by have := hb3.size; omega
  clear hs2 ho3 p0 hf0
  go_wp2
  refine bodyPost_end (results_none rfl _ _ _) rfl ?_
  exact ⟨rfl, h1, h2⟩

/-- What the writer has put behind it for a batch. -/
def putB (ys : List UInt8) (_ : Bt) (t : ByteArray) : List UInt8 := ys ++ (VP.enc t.size ++ bytesOf t)
set_option maxRecDepth 100000 in
set_option maxHeartbeats 1000000 in
theorem qbatch_any (g : Nat) (ys : List UInt8) (b : Bt) (t : ByteArray) (er : Int) (A : Option Addr) (n c B : Nat) (w : World) (hw : Wq w g ys) (hy : ys.length ≤ 900) (ht : BytesIs b t er) (hn : b.rs.length = n) (hs : Seen w B A (rcells b.rs)) (hB : B ≤ w.heap.size) (hmax : n ≤ 9223372036854775807)
    (hsz : ∀ y ∈ b.rs, y.k.size ≤ 9223372036854775807 ∧ y.v.size ≤ 9223372036854775807) :
    Calls Tryz.prog 31 #[.pointer (some ⟨g, 0, none⟩), .agg #[.int .i64 b.pid, .int .i64 b.ep, .int .i64 b.sq, .bool b.tx, .slice A n c]] w (QRes w g (putB ys b t)) := by
  obtain ⟨pid, ep, sq, tx, rs⟩ := b
  simp only at hn hs hsz ⊢
  obtain ⟨W0, hW0⟩ : ∃ W0, W0 = w.alloc (.cells #[.int .i64 pid, .int .i64 ep, .int .i64 sq, .bool tx, .slice A n c] 27) := ⟨_, rfl⟩
  have v0 : Var W0 w.heap.size 27 #[.int .i64 pid, .int .i64 ep, .int .i64 sq, .bool tx, .slice A n c] := by rw [hW0]; exact Var.new _ _ _
  have b0 : Below w.heap.size w W0 := by rw [hW0]; exact below_new _
  have hts : t.size ≤ 1000 := by
    rcases ht with ⟨hg, rfl, -⟩ | ⟨-, rfl, -⟩
    · have := Bt.enc_le hg
      rw [← bytesOf_length, bytesOf_mk]
      omega
    · simp [ByteArray.size]
  have w0 := hw.below b0
  have hs0 := hs.below (b0.mono hB)
  have hB0 : B ≤ W0.heap.size := Nat.le_trans hB b0.size
  have HB := Lib.hid (bytes_all A n c B rs pid ep sq tx W0 t er ht hn hs0 hB0 hmax hsz)
  have HW0 := Lib.hid hW0
  clear hW0 ht hn hs hs0 hsz hw
  go_enter Tryz.func31, Tryz.ntmps31
  go_upto_region 1 with fail
  rw [← HW0.out]
  go_wp2_with (refine wpList_load_var rfl _ rfl Tryz.underlying27 rfl rfl v0 (by kernel_rfl) ?_)
  refine HB.out.mono ?_
  rintro e W1 ⟨rfl, hb1⟩
  have w1 := w0.below hb1
  have b1 := b0.trans (hb1.mono b0.size)
  obtain ⟨A2, c2, ly, hv, hs2, hly, hc2, -⟩ := w1.get
  have hgr := hv.lt
  have hlyb : ly ≤ 1000 := by omega
  obtain ⟨p0, hf0⟩ : W1.cell? ⟨g, 0, none⟩ = some (.slice A2 ly c2) ∧ W1.frozen? ⟨g, 0, none⟩ = false := ⟨hv.cell 0 rfl, hv.free 0⟩
  have HLY := Lib.hid hly
  clear hly w0 w1 HB
  go_wp2_with fail
  obtain ⟨lx, hlx⟩ : ∃ lx, lx = (putB ys ⟨pid, ep, sq, tx, rs⟩ t).length := ⟨_, rfl⟩
  have HLX := Lib.hid hlx
  clear hlx
  refine (text_own A2 c2 _ ly t _ lx W1 (by omega) rfl HLY.out HLX.out hs2 (by omega)).mono ?_
  rintro e w3 ⟨v3, rfl, ho3, hb3⟩
  obtain ⟨A3, c3, rfl, -, -⟩ := own_formN ho3
  obtain ⟨h1, h2⟩ := Wq.put hv ho3 hb3 HLX.out
  have hf3 : w3.frozen? ⟨g, 0, none⟩ = false := (hv.below hb3 hgr).free 0
  have hc3 : w3.cell? ⟨g, 0, none⟩ = some (.slice A2 ly c2) := (hv.below hb3 hgr).cell 0 rfl
  have hg3 : g < w3.heap.size := by have := hb3.size; omega
  have k3 := (Kept.of_below (S := [g]) b1).trans h2
  clear hs2 ho3 p0 hf0 h2
  go_wp2
  refine bodyPost_end (results_none rfl _ _ _) rfl ?_
  exact ⟨rfl, h1, k3⟩
end Go.Proofs.YtfcifblbapadpaaGreatDoor
