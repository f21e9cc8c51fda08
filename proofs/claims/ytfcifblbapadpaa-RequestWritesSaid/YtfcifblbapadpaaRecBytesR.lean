/-
  The contract of the document's Bytes: what it returns and what it does to memory. Conditions: those that each theorem names.
-/
import Derived.Test.YtfcifblbapadpaaRecBytes
import Derived.Test.YtfcifblbapadpaaRecMayR
namespace Go.Proofs.Ytfcifblbapadpaa
open Go.RowKit

section
variable {W0 wr : World} {ys : List UInt8} {A : Option Addr} {c ly : Nat}
theorem ref_num_next (h : Wrote W0 wr ys A c ly) (n : Nat) (hn : n ≤ 1099511627776) (hl : ly ≤ 900) : Calls Try.prog 31 #[.slice A ly c, .int .i64 (n : Int)] wr fun e w' =>
    ∃ A' c' lx, e = .returned (.tuple #[.slice A' lx c', .int .i64 0]) ∧ Wrote W0 w' (ys ++ VP.enc n) A' c' lx ∧ lx ≤ ly + 6 ∧ Below wr.heap.size wr w' := by
  have he := VP.enc_six (n := n) (by omega)
  have hlen : (ys ++ VP.enc n).length ≤ ly + 6 := by rw [List.length_append, ← h.len]; omega
  refine (ref_num_put A c ys ly n _ 0 (ys ++ VP.enc n).length wr (putIs_small (by omega)) h.len rfl h.seen (by omega)).mono ?_
  rintro e w3 ⟨A3, c3, rfl, hs3, hc3, hb3⟩
  exact ⟨A3, c3, _, rfl, h.step hs3 rfl hc3 (by omega) hb3, hlen, hb3⟩
theorem ref_flag_next (h : Wrote W0 wr ys A c ly) (b : Bool) (hl : ly ≤ 900) : Calls Try.prog 20 #[.slice A ly c, .bool b] wr fun e w' =>
    ∃ A' c' lx, e = .returned (.slice A' lx c') ∧ Wrote W0 w' (ys ++ [flagByte b]) A' c' lx ∧ lx ≤ ly + 6 ∧ Below wr.heap.size wr w' := by
  refine (ref_flag_put A c ys ly b _ (ly + 1) wr rfl h.len rfl h.seen (by omega)).mono ?_
  rintro e w3 ⟨A3, c3, rfl, hs3, hc3, hb3⟩
  exact ⟨A3, c3, _, rfl, h.step hs3 (by rw [List.length_append, ← h.len]; rfl) hc3 (by omega) hb3, by omega, hb3⟩
theorem ref_text_next (h : Wrote W0 wr ys A c ly) (s : ByteArray) (hs : s.size ≤ 16) (hl : ly ≤ 900) : Calls Try.prog 19 #[.slice A ly c, .string s] wr fun e w' =>
    ∃ A' c' lx, e = .returned (.tuple #[.slice A' lx c', .int .i64 0]) ∧ Wrote W0 w' (ys ++ (VP.enc s.size ++ bytesOf s)) A' c' lx ∧ lx ≤ ly + 17 ∧ Below wr.heap.size wr w' := by
  have he : (VP.enc s.size).length ≤ 1 := VP.enc_le 1 _ (by omega) (by omega)
  have hlen : (ys ++ (VP.enc s.size ++ bytesOf s)).length ≤ ly + 17 := by rw [List.length_append, List.length_append, bytesOf_length, ← h.len]; omega
  refine (ref_text_put A c ys ly s _ 0 (ys ++ (VP.enc s.size ++ bytesOf s)).length wr (.inl ⟨by omega, rfl, rfl⟩) h.len rfl h.seen (by omega)).mono ?_
  rintro e w3 ⟨A3, c3, rfl, hs3, hc3, hb3⟩
  exact ⟨A3, c3, _, rfl, h.step hs3 rfl hc3 (by omega) hb3, hlen, hb3⟩
end

set_option maxRecDepth 100000 in
theorem ref_bytes_no (A : Option Addr) (n c B : Nat) (rs : List Rc) (pid ep sq : Int) (tx : Bool) (w : World) (hn : rs.length = n) (hm : ¬ Bt.Good ⟨pid, ep, sq, tx, rs⟩) (hs : Seen w B A (rcells rs)) (hB : B ≤ w.heap.size) (hmax : n ≤ 9223372036854775807)
    (hsz : ∀ y ∈ rs, y.k.size ≤ 9223372036854775807 ∧ y.v.size ≤ 9223372036854775807) :
    Calls Try.prog 18 #[.agg #[.int .i64 pid, .int .i64 ep, .int .i64 sq, .bool tx, .slice A n c]] w fun e w' => e = .returned (.tuple #[.string ⟨#[]⟩, .int .i64 2]) ∧ Below w.heap.size w w' := by
  have hbel := below_new (w := w) (.cells #[.int .i64 pid, .int .i64 ep, .int .i64 sq, .bool tx, .slice A n c] 25)
  go_enter Try.func18, Try.ntmps18
  go_wp2_with fail
  refine (ref_may_any A n c B rs pid ep sq tx false _ hn ⟨by simp, fun h => absurd h hm⟩ (hs.below (hbel.mono hB)) (Nat.le_trans hB hbel.size) hmax hsz).mono ?_
  rintro e w1 ⟨rfl, hb1⟩
  have hb2 := hbel.trans (hb1.mono hbel.size)
  clear hn hm
  go_wp2
  go_ret2
  exact ⟨rfl, hb2⟩

set_option maxRecDepth 100000 in
set_option maxHeartbeats 4000000 in
theorem ref_bytes_yes (A : Option Addr) (n c B : Nat) (rs : List Rc) (a b d : Nat) (tx : Bool) (w : World) (hn : rs.length = n) (hm : Bt.Good ⟨a, b, d, tx, rs⟩) (hs : Seen w B A (rcells rs)) (hB : B ≤ w.heap.size) :
    Calls Try.prog 18 #[.agg #[.int .i64 a, .int .i64 b, .int .i64 d, .bool tx, .slice A n c]] w fun e w' => e = .returned (.tuple #[.string ⟨(Bt.enc ⟨a, b, d, tx, rs⟩).toArray⟩, .int .i64 0]) ∧ Below w.heap.size w w' := by
  have hnew := Var.new w #[.int .i64 a, .int .i64 b, .int .i64 d, .bool tx, .slice A n c] 25
  have hbel := below_new (w := w) (.cells #[.int .i64 a, .int .i64 b, .int .i64 d, .bool tx, .slice A n c] 25)
  have hsz : ∀ y ∈ rs, y.k.size ≤ 9223372036854775807 ∧ y.v.size ≤ 9223372036854775807 := fun y hy => by have := hm.2.2.2.2 y hy; unfold Rc.Good at this; omega
  have hn4 : n ≤ 4 := by rw [← hn]; exact hm.2.2.1.2
  have hab : (a ≤ 8 ∧ b ≤ 100) ∧ d ≤ 1048576 := by have h1 := hm.1; have h2 := hm.2.1; have h3 := hm.2.2.2.1; simp only at h1 h2 h3; omega
  obtain ⟨⟨ha8, hb100⟩, hd20⟩ := hab
  go_enter Try.func18, Try.ntmps18
  go_wp2_with fail
  refine (ref_may_any A n c B rs a b d tx true _ hn ⟨fun _ => hm, fun _ => rfl⟩ (hs.below (hbel.mono hB)) (Nat.le_trans hB hbel.size) (by omega) hsz).mono ?_
  rintro e W0 ⟨rfl, hb1⟩
  have hv0 := hnew.below hb1 hnew.lt
  have hbw0 := hbel.trans (hb1.mono hbel.size)
  have HN := Lib.hid hn
  have HM := Lib.hid hm
  have hg0 := hv0.lt
  have hB0 : B ≤ W0.heap.size := Nat.le_trans hB hbw0.size
  have hs0 := hs.below (hbw0.mono hB)
  clear hn hm hnew hbel hb1 hsz hs
  obtain ⟨d0, d1, d2, d3, d4, f1⟩ := hv0.cells5
  clear d1 d2 d3 d4
  go_wp2_with fail
  refine (ref_num_next (Wrote.start W0) a (by omega) (by omega)).mono ?_
  rintro e w1 ⟨A1, c1, l1, rfl, hw1, hl1, -⟩
  clear d0 f1
  obtain ⟨d0, d1, d2, d3, d4, f1⟩ := (hv0.below hw1.below hg0).cells5
  have z1 : w.heap.size < w1.heap.size := Nat.lt_of_lt_of_le hg0 hw1.below.size
  clear d0 d2 d3 d4
  go_wp2_with fail
  refine (ref_num_next hw1 b (by omega) (by omega)).mono ?_
  rintro e w2 ⟨A2, c2, l2, rfl, hw2, hl2, -⟩
  clear d1 f1 hw1 z1
  obtain ⟨d0, d1, d2, d3, d4, f1⟩ := (hv0.below hw2.below hg0).cells5
  have z1 : w.heap.size < w2.heap.size := Nat.lt_of_lt_of_le hg0 hw2.below.size
  clear d0 d1 d3 d4
  go_wp2_with fail
  refine (ref_num_next hw2 d (by omega) (by omega)).mono ?_
  rintro e w3 ⟨A3, c3, l3, rfl, hw3, hl3, -⟩
  clear d2 f1 hw2 z1
  obtain ⟨d0, d1, d2, d3, d4, f1⟩ := (hv0.below hw3.below hg0).cells5
  have z1 : w.heap.size < w3.heap.size := Nat.lt_of_lt_of_le hg0 hw3.below.size
  clear d0 d1 d2 d4
  go_wp2_with fail
  refine (ref_flag_next hw3 tx (by omega)).mono ?_
  rintro e w4 ⟨A4, c4, l4, rfl, hw4, hl4, -⟩
  clear d3 f1 hw3 z1
  obtain ⟨d0, d1, d2, d3, d4, f1⟩ := (hv0.below hw4.below hg0).cells5
  have z1 : w.heap.size < w4.heap.size := Nat.lt_of_lt_of_le hg0 hw4.below.size
  clear d0 d1 d2 d3
  go_wp2_with fail
  refine (ref_num_next hw4 n (by omega) (by omega)).mono ?_
  rintro e w5 ⟨A5, c5, l5, rfl, hw5, hl5, -⟩
  clear d4 f1 hw4 z1
  obtain ⟨zs, hzs⟩ : ∃ zs, zs = [] ++ VP.enc a ++ VP.enc b ++ VP.enc d ++ [flagByte tx] ++ VP.enc n := ⟨_, rfl⟩
  rw [← hzs] at hw5
  have HZ := Lib.hid hzs
  clear hzs
  go_wp2_with fail
  go_loopw [4, 6] (fun sv i wr => ∃ (k : Nat) (A1 : Option Addr) (c1 ly : Nat) (ys : List UInt8), k ≤ n ∧ i = .int .i64 k ∧ sv = .slice A1 ly c1 ∧ Wrote W0 wr ys A1 c1 ly ∧ ly ≤ 40 + 34 * k ∧ Hid (ys = zs ++ encRs (rs.take k))) (fun _ i _ => n - (intOf i).toNat)
  case atStart => exact ⟨0, A5, c5, l5, zs, by omega, rfl, rfl, hw5, by omega, by show _ = _; simp [encRs]⟩
  case round =>
    clear hw5
    obtain ⟨k, A6, c6, l6, ys6, hk, rfl, rfl, hw, hl34, HY⟩ := hrel
    have hbz := hw.below.size
    obtain ⟨d0, d1, d2, d3, d4, f1⟩ := (hv0.below hw.below hg0).cells5
    have z1 : w.heap.size < wr.heap.size := by omega
    clear d0 d1 d2 d3
    by_cases hlt : k < n
    · obtain ⟨r, hr⟩ := rec_here HN.out hlt
      obtain ⟨b1, o1, rfl, hb1, p0, p1⟩ := rec_at (hs0.below (hw.below.mono hB0)) hr
      have hw1 : b1 < wr.heap.size := by omega
      have hgd := HM.out.2.2.2.2 r (List.mem_of_getElem? hr)
      have HS := Lib.hid (encRs_step hr)
      obtain ⟨rk, rv⟩ := r
      obtain ⟨hgk, hgv⟩ := hgd
      simp only at p0 p1 hgk hgv
      have HR := Lib.hid hr
      clear hr p1
      go_wp2_with fail
      refine (ref_text_next hw rk hgk (by omega)).mono ?_
      rintro e w7 ⟨A7, c7, l7, rfl, hw7, hl7, -⟩
      clear p0 d4 f1 z1 hw1
      obtain ⟨d0, d1, d2, d3, d4, f1⟩ := (hv0.below hw7.below hg0).cells5
      obtain ⟨b2, o2, hA, hb2, p0, p1⟩ := rec_at (hs0.below (hw7.below.mono hB0)) HR.out
      simp only [Option.some.injEq, Addr.mk.injEq, and_true] at hA
      obtain ⟨rfl, rfl⟩ := hA
      have z1 : w.heap.size < w7.heap.size := Nat.lt_of_lt_of_le hg0 hw7.below.size
      have hw1 : b1 < w7.heap.size := by have := hw7.below.size; omega
      simp only at p1
      clear d0 d1 d2 d3 p0
      go_wp2_with fail
      refine (ref_text_next hw7 rv hgv (by omega)).mono ?_
      rintro e w8 ⟨A8, c8, l8, rfl, hw8, hl8, -⟩
      clear p1 d4 f1 z1 hw1 hw hw7
      have HY2 : Hid (ys6 ++ (VP.enc rk.size ++ bytesOf rk) ++ (VP.enc rv.size ++ bytesOf rv) = zs ++ encRs (rs.take (k + 1))) := by show _ = _; rw [HY.out, HS.out]; simp [Rc.enc]
      go_wp2
      go_roundw
      case rel => exact ⟨k + 1, A8, c8, l8, _, by omega, by go_num, rfl, hw8, by omega, HY2⟩
      case measure => simp [intOf]; omega
    · have hkn : k = n := by omega
      subst hkn
      have HF : Hid (ys6 = Bt.enc ⟨a, b, d, tx, rs⟩) := by
        show _ = _
        have hnn := HN.out
        rw [HY.out, HZ.out, List.take_of_length_le (by omega)]
        simp [Bt.enc, hnn]
      have hst := str_now (P := Try.prog) hw.seen 30 9 5 l6 c6 hw.len Try.underlying30 Try.underlying5 Try.underlying9
      have hbf := hbw0.trans (hw.below.mono hbw0.size)
      clear HY
      go_wp2
      go_ret2
      exact ⟨ret_bytes HF.out, hbf⟩
section
variable (A : Option Addr) (n c B : Nat) (rs : List Rc) (pid ep sq : Int) (tx : Bool) (w : World)
theorem ref_bytes_all (s : ByteArray) (er : Int) (h : BytesIs ⟨pid, ep, sq, tx, rs⟩ s er) (hn : rs.length = n) (hs : Seen w B A (rcells rs)) (hB : B ≤ w.heap.size) (hmax : n ≤ 9223372036854775807) (hsz : ∀ y ∈ rs, y.k.size ≤ 9223372036854775807 ∧ y.v.size ≤ 9223372036854775807) :
    Calls Try.prog 18 #[.agg #[.int .i64 pid, .int .i64 ep, .int .i64 sq, .bool tx, .slice A n c]] w fun e w' => e = .returned (.tuple #[.string s, .int .i64 er]) ∧ Below w.heap.size w w' := by
  rcases h with ⟨h1, rfl, rfl⟩ | ⟨h1, rfl, rfl⟩
  · obtain ⟨a, b, d, rfl, rfl, rfl⟩ := good_nat h1
    exact ref_bytes_yes A n c B rs a b d tx w hn h1 hs hB
  · exact ref_bytes_no A n c B rs pid ep sq tx w hn h1 hs hB hmax hsz
end
end Go.Proofs.Ytfcifblbapadpaa
