/-
  The contract of record's Bytes: what it returns and what it does to memory. Conditions: those that each theorem names.
-/
import Derived.Test.YtfcifblbapadpaaGreatDoorRecMayB
namespace Go.Proofs.YtfcifblbapadpaaGreatDoor
open Go.RowKit

/-- What has been written so far. -/
structure Wrote (W0 wr : World) (ys : List UInt8) (A : Option Addr) (c ly : Nat) : Prop where
  seen : Seen wr wr.heap.size A (cells ys)
  len : ly = ys.length
  cap : ly ≤ c
  le : ly ≤ 1000
  below : Below W0.heap.size W0 wr
theorem Wrote.next {W0 wr w' : World} {ys : List UInt8} {A : Option Addr} {c ly : Nat} (h : Wrote W0 wr ys A c ly) (hb : Below wr.heap.size wr w') : Wrote W0 w' ys A c ly :=
  ⟨(h.seen.below hb).up hb.size, h.len, h.cap, h.le, h.below.trans (hb.mono h.below.size)⟩
theorem Wrote.step {W0 wr w' : World} {ys xs : List UInt8} {A A' : Option Addr} {c ly c' lx : Nat} (h : Wrote W0 wr ys A c ly) (hs : Seen w' w'.heap.size A' (cells xs)) (hl : lx = xs.length) (hc : lx ≤ c') (hle : lx ≤ 1000) (hb : Below wr.heap.size wr w') : Wrote W0 w' xs A' c' lx :=
  ⟨hs, hl, hc, hle, h.below.trans (hb.mono h.below.size)⟩
theorem Wrote.start (w : World) : Wrote w w [] none 0 0 := ⟨Seen.nil _ _ _, rfl, Nat.le_refl _, by omega, Below.refl _ _⟩
theorem putIs_small {bs : List UInt8} {n : Nat} (hn : n ≤ 1099511627776) : PutIs bs n (bs ++ VP.enc n) 0 := .inl ⟨by omega, by omega, by rw [Int.toNat_natCast], rfl⟩

set_option maxRecDepth 100000 in
theorem bytes_no (A : Option Addr) (n c B : Nat) (rs : List Rc) (pid ep sq : Int) (tx : Bool) (w : World) (hn : rs.length = n) (hm : ¬ Bt.Good ⟨pid, ep, sq, tx, rs⟩) (hs : Seen w B A (rcells rs)) (hB : B ≤ w.heap.size) (hmax : n ≤ 9223372036854775807)
    (hsz : ∀ y ∈ rs, y.k.size ≤ 9223372036854775807 ∧ y.v.size ≤ 9223372036854775807) :
    Calls Tryz.prog 52 #[.agg #[.int .i64 pid, .int .i64 ep, .int .i64 sq, .bool tx, .slice A n c]] w fun e w' => e = .returned (.tuple #[.string ⟨#[]⟩, .int .i64 2]) ∧ Below w.heap.size w w' := by
  have hnew := Var.new w #[.int .i64 pid, .int .i64 ep, .int .i64 sq, .bool tx, .slice A n c] 27
  have hbel := below_new (w := w) (.cells #[.int .i64 pid, .int .i64 ep, .int .i64 sq, .bool tx, .slice A n c] 27)
  go_enter Tryz.func52, Tryz.ntmps52
  go_wp2_with fail
  refine (may_any A n c B rs pid ep sq tx false _ hn ⟨by simp, fun h => absurd h hm⟩ (hs.below (hbel.mono hB)) (Nat.le_trans hB hbel.size) hmax hsz).mono ?_
  rintro e w1 ⟨rfl, hb1⟩
  have hb2 := hbel.trans (hb1.mono hbel.size)
  clear hn hm hnew
  go_wp2
  go_ret2
  exact ⟨rfl, hb2⟩

theorem ret_bytes {a b : List UInt8} (h : a = b) : Ending.returned (.tuple #[.string ⟨a.toArray⟩, .int .i64 0]) = .returned (.tuple #[.string ⟨b.toArray⟩, .int .i64 0]) := by rw [h]
def encN (l : List Nat) : List UInt8 := l.flatMap VP.enc
theorem encN_step {l : List Nat} {k x : Nat} (h : l[k]? = some x) : encN (l.take (k + 1)) = encN (l.take k) ++ VP.enc x := by
  rw [List.take_add_one, h]
  simp [encN]
theorem encRs_step {l : List Rc} {k : Nat} {x : Rc} (h : l[k]? = some x) : encRs (l.take (k + 1)) = encRs (l.take k) ++ x.enc := by
  rw [List.take_add_one, h]
  exact encRs_snoc _ _

set_option maxRecDepth 100000 in
set_option maxHeartbeats 4000000 in
theorem bytes_yes (A : Option Addr) (n c B : Nat) (rs : List Rc) (a b d : Nat) (tx : Bool) (w : World) (hn : rs.length = n) (hm : Bt.Good ⟨a, b, d, tx, rs⟩) (hs : Seen w B A (rcells rs)) (hB : B ≤ w.heap.size) :
    Calls Tryz.prog 52 #[.agg #[.int .i64 a, .int .i64 b, .int .i64 d, .bool tx, .slice A n c]] w fun e w' => e = .returned (.tuple #[.string ⟨(Bt.enc ⟨a, b, d, tx, rs⟩).toArray⟩, .int .i64 0]) ∧ Below w.heap.size w w' := by
  have hnew := Var.new w #[.int .i64 a, .int .i64 b, .int .i64 d, .bool tx, .slice A n c] 27
  have hbel := below_new (w := w) (.cells #[.int .i64 a, .int .i64 b, .int .i64 d, .bool tx, .slice A n c] 27)
  have hsz : ∀ y ∈ rs, y.k.size ≤ 9223372036854775807 ∧ y.v.size ≤ 9223372036854775807 := fun y hy => by have := hm.2.2.2.2 y hy; unfold Rc.Good at this; omega
  have hn4 : n ≤ 4 := by rw [← hn]; exact hm.2.2.1.2
  have hab : (a ≤ 8 ∧ b ≤ 100) ∧ d ≤ 1048576 := by have h1 := hm.1; have h2 := hm.2.1; have h3 := hm.2.2.2.1; simp only at h1 h2 h3; omega
  obtain ⟨⟨ha8, hb100⟩, hd20⟩ := hab
  go_enter Tryz.func52, Tryz.ntmps52
  go_wp2_with fail
  refine (may_any A n c B rs a b d tx true _ hn ⟨fun _ => hm, fun _ => rfl⟩ (hs.below (hbel.mono hB)) (Nat.le_trans hB hbel.size) (by omega) hsz).mono ?_
  rintro e w1 ⟨rfl, hb1⟩
  have hv1 := hnew.below hb1 hnew.lt
  have hbw1 := hbel.trans (hb1.mono hbel.size)
  have HN := Lib.hid hn
  have HM := Lib.hid hm
  obtain ⟨e0, e1, e2, e3, e4, fr⟩ := hv1.cells5
  have l1 := hv1.lt
  clear hn hm hnew hbel hb1 hsz
  go_wp2_with fail
  obtain ⟨W0, hW0⟩ : ∃ W0, W0 = w1.alloc (.cells #[.int .i64 a, .int .i64 b, .int .i64 d] 3) := ⟨_, rfl⟩
  have hv0 : Var W0 w.heap.size 27 #[.int .i64 a, .int .i64 b, .int .i64 d, .bool tx, .slice A n c] := by rw [hW0]; exact hv1.alloc _
  have hi0 : Var W0 w1.heap.size 3 #[.int .i64 a, .int .i64 b, .int .i64 d] := by rw [hW0]; exact Var.new _ _ _
  have hbw0 : Below w.heap.size w W0 := by rw [hW0]; exact hbw1.alloc hbw1.size _
  rw [← hW0]
  clear hW0 hv1 hbw1 e0 e1 e2 e3 e4 fr l1
  have hg0 := hv0.lt
  have hg1 := hi0.lt
  have hB0 : B ≤ W0.heap.size := Nat.le_trans hB hbw0.size
  have hs0 := hs.below (hbw0.mono hB)
  clear hs
  go_loopw [4, 20] (fun sv i wr => ∃ (k : Nat) (A1 : Option Addr) (c1 ly : Nat) (ys : List UInt8), k ≤ 3 ∧ i = .int .i64 k ∧ sv = .slice A1 ly c1 ∧ Wrote W0 wr ys A1 c1 ly ∧ ly ≤ 6 * k ∧ Hid (ys = encN ([a, b, d].take k))) (fun _ i _ => 3 - (intOf i).toNat)
  case atStart => exact ⟨0, none, 0, 0, [], by omega, rfl, rfl, Wrote.start W0, by omega, rfl⟩
  case round =>
    obtain ⟨k, A1, c1, ly, ys, hk, rfl, rfl, hw, hl6, HY⟩ := hrel
    have hbz := hw.below.size
    by_cases hlt : k < 3
    · obtain ⟨x, hx⟩ : ∃ x, [a, b, d][k]? = some x := ⟨_, List.getElem?_eq_getElem (by simpa using hlt)⟩
      have hc : wr.cell? ⟨w1.heap.size, k, none⟩ = some (.int .i64 (x : Int)) := (hi0.below hw.below hg1).cell k (by
        match k, hlt with
        | 0, _ => injection hx with hx; rw [← hx]; rfl
        | 1, _ => injection hx with hx; rw [← hx]; rfl
        | 2, _ => injection hx with hx; rw [← hx]; rfl)
      have hxb : x ≤ 1048576 := by
        have := List.mem_of_getElem? hx
        simp at this
        omega
      have HS := Lib.hid (encN_step hx)
      obtain ⟨xs, hxs⟩ : ∃ xs, xs = ys ++ VP.enc x := ⟨_, rfl⟩
      obtain ⟨lx, hlx⟩ : ∃ lx, lx = xs.length := ⟨_, rfl⟩
      have hlx6 : lx ≤ ly + 6 := by rw [hlx, hxs, List.length_append, hw.len]; have := VP.enc_six (n := x) (by omega); omega
      have HY2 : Hid (xs = encN ([a, b, d].take (k + 1))) := by show _ = _; rw [hxs, HY.out, HS.out]
      have HP : Hid (PutIs ys x xs 0) := by show PutIs _ _ _ _; rw [hxs]; exact putIs_small (by omega)
      have HLX := Lib.hid hlx
      have HLY := Lib.hid hw.len
      clear hx hxs hlx HS HY
      go_wp2_with fail
      refine (num_put A1 c1 ys ly x xs 0 lx _ HP.out HLY.out HLX.out hw.seen (by omega)).mono ?_
      rintro e w3 ⟨A3, c3, rfl, hs3, hc3, hb3⟩
      have hw3 := hw.step hs3 HLX.out hc3 (by omega) hb3
      clear hs3 hc3 hb3 hw hc
      go_wp2
      go_roundw
      case rel => exact ⟨k + 1, A3, c3, lx, xs, by omega, by go_num, rfl, hw3, by omega, HY2⟩
      case measure => simp [intOf]; omega
    · have hk3 : k = 3 := by omega
      subst hk3
      obtain ⟨d0, d1, d2, d3, d4, f1⟩ := (hv0.below hw.below hg0).cells5
      have hg0r : w.heap.size < wr.heap.size := by omega
      have HY0 : Hid (ys = VP.enc a ++ (VP.enc b ++ VP.enc d)) := by show _ = _; rw [HY.out]; simp [encN]
      clear HY hlt hk d0 d1 d2 d4
      obtain ⟨xs, hxs⟩ : ∃ xs, xs = ys ++ [flagByte tx] := ⟨_, rfl⟩
      have hlx : ly + 1 = xs.length := by rw [hxs, List.length_append, ← hw.len]; rfl
      go_wp2_with fail
      refine (flag_put A1 c1 ys ly tx xs (ly + 1) _ hxs hw.len rfl hw.seen (by omega) hw.cap).mono ?_
      rintro e w3 ⟨A3, c3, rfl, hs3, hc3, hb3⟩
      have hw3 := hw.step hs3 hlx hc3 (by omega) hb3
      have HX3 : Hid (xs = VP.enc a ++ (VP.enc b ++ (VP.enc d ++ [flagByte tx]))) := by show _ = _; rw [hxs, HY0.out]; simp
      clear hs3 hc3 hb3 hw HY0 hxs d3 f1
      obtain ⟨d0, d1, d2, d3, d4, f1⟩ := (hv0.below hw3.below hg0).cells5
      have hg3r : w.heap.size < w3.heap.size := by have := hw3.below.size; omega
      obtain ⟨zs, hzs⟩ : ∃ zs, zs = xs ++ VP.enc n := ⟨_, rfl⟩
      obtain ⟨lz, hlz⟩ : ∃ lz, lz = zs.length := ⟨_, rfl⟩
      have hlz1 : lz ≤ ly + 7 := by rw [hlz, hzs, List.length_append, ← hlx]; have := VP.enc_six (n := n) (by omega); omega
      have HP : Hid (PutIs xs n zs 0) := by show PutIs _ _ _ _; rw [hzs]; exact putIs_small (by omega)
      have HLX := Lib.hid hlx
      have HLZ := Lib.hid hlz
      clear d0 d1 d2 d3 hlx hlz
      go_wp2_with fail
      refine (num_put A3 c3 xs (ly + 1) n zs 0 lz _ HP.out HLX.out HLZ.out hw3.seen (by omega)).mono ?_
      rintro e w5 ⟨A5, c5, rfl, hs5, hc5, hb5⟩
      have hw5 := hw3.step hs5 HLZ.out hc5 (by omega) hb5
      have HX5 : Hid (zs = VP.enc a ++ (VP.enc b ++ (VP.enc d ++ (flagByte tx :: VP.enc n)))) := by show _ = _; rw [hzs, HX3.out]; simp
      clear hs5 hc5 hb5 hw3 HX3 hzs d4 f1 hg3r HP HLX
      obtain ⟨d0, d1, d2, d3, d4, f1⟩ := (hv0.below hw5.below hg0).cells5
      have hg5r : w.heap.size < w5.heap.size := by have := hw5.below.size; omega
      clear d0 d1 d2 d3
      go_wp2_with fail
      go_loopw [4, 46] (fun sv i wr => ∃ (k : Nat) (A1 : Option Addr) (c1 ly : Nat) (ys : List UInt8), k ≤ n ∧ i = .int .i64 k ∧ sv = .slice A1 ly c1 ∧ Wrote W0 wr ys A1 c1 ly ∧ ly ≤ 40 + 34 * k ∧ Hid (ys = zs ++ encRs (rs.take k))) (fun _ i _ => n - (intOf i).toNat)
      case atStart => exact ⟨0, A5, c5, lz, zs, by omega, rfl, rfl, hw5, by omega, by show _ = _; simp [encRs]⟩
      case round =>
        clear hw5 d4 f1 hg5r hg0r
        obtain ⟨k, A6, c6, l6, ys6, hk, rfl, rfl, hw, hl34, HY⟩ := hrel
        have hbz := hw.below.size
        by_cases hlt : k < n
        · obtain ⟨r, hr⟩ := rec_here HN.out hlt
          obtain ⟨b1, o1, rfl, hb1, p0, p1⟩ := rec_at (hs0.below (hw.below.mono hB0)) hr
          have hw1 : b1 < wr.heap.size := by omega
          have hgd := HM.out.2.2.2.2 r (List.mem_of_getElem? hr)
          have HS := Lib.hid (encRs_step hr)
          obtain ⟨rk, rv⟩ := r
          obtain ⟨hgk, hgv⟩ := hgd
          simp only at p0 p1 hgk hgv
          clear hr
          obtain ⟨W6, hW6⟩ : ∃ W6, W6 = wr.alloc (.cells #[.string rk, .string rv] 71) := ⟨_, rfl⟩
          have hv6 : Var W6 wr.heap.size 71 #[.string rk, .string rv] := by rw [hW6]; exact Var.new _ _ _
          have hw6 : Wrote W0 W6 ys6 A6 c6 l6 := by rw [hW6]; exact hw.next (below_new _)
          obtain ⟨x1, hx1⟩ : ∃ xs, xs = ys6 ++ (VP.enc rk.size ++ bytesOf rk) := ⟨_, rfl⟩
          obtain ⟨l1, hl1⟩ : ∃ l1, l1 = x1.length := ⟨_, rfl⟩
          have hk1 : (VP.enc rk.size).length ≤ 1 := VP.enc_le 1 _ (by omega) (by omega)
          have hv1 : (VP.enc rv.size).length ≤ 1 := VP.enc_le 1 _ (by omega) (by omega)
          have hl1b : l1 ≤ l6 + 17 := by rw [hl1, hx1, List.length_append, List.length_append, bytesOf_length, ← hw.len]; omega
          obtain ⟨x2, hx2⟩ : ∃ xs, xs = x1 ++ (VP.enc rv.size ++ bytesOf rv) := ⟨_, rfl⟩
          obtain ⟨l2, hl2⟩ : ∃ l2, l2 = x2.length := ⟨_, rfl⟩
          have hl2b : l2 ≤ l6 + 34 := by rw [hl2, hx2, List.length_append, List.length_append, bytesOf_length, ← hl1]; omega
          have HT1 : Hid (TextPut ys6 rk x1 0) := .inl ⟨by omega, hx1, rfl⟩
          have HT2 : Hid (TextPut x1 rv x2 0) := .inl ⟨by omega, hx2, rfl⟩
          have HY2 : Hid (x2 = zs ++ encRs (rs.take (k + 1))) := by show _ = _; rw [hx2, hx1, HY.out, HS.out]; simp [Rc.enc]
          have HL1 := Lib.hid hl1
          have HL2 := Lib.hid hl2
          have HL6 := Lib.hid hw.len
          have hW6' := Lib.hid hW6
          clear hx1 hx2 hl1 hl2 HS HY hw hk1 hv1 hW6
          go_wp2_with fail
          rw [← hW6'.out]
          clear p0 p1 hW6' hw1
          obtain ⟨q0, q1, f6⟩ := hv6.cells2
          have hz6 := hv6.lt
          clear q0 f6
          refine (text_put A6 c6 ys6 l6 rk x1 0 l1 _ HT1.out HL6.out HL1.out hw6.seen (by omega)).mono ?_
          rintro e w7 ⟨A7, c7, rfl, hs7, hc7, hb7⟩
          have hw7 := hw6.step hs7 HL1.out hc7 (by omega) hb7
          obtain ⟨q0', q1', f7⟩ := (hv6.below hb7 hz6).cells2
          have hz7 : wr.heap.size < w7.heap.size := by have := hb7.size; omega
          clear hs7 hc7 hb7 hw6 q1 q0'
          go_wp2_with fail
          refine (text_put A7 c7 x1 l1 rv x2 0 l2 _ HT2.out HL1.out HL2.out hw7.seen (by omega)).mono ?_
          rintro e w8 ⟨A8, c8, rfl, hs8, hc8, hb8⟩
          have hw8 := hw7.step hs8 HL2.out hc8 (by omega) hb8
          clear hs8 hc8 hb8 hw7 q1' f7 HT1 HT2
          go_wp2
          go_roundw
          case rel => exact ⟨k + 1, A8, c8, l2, x2, by omega, by go_num, rfl, hw8, by omega, HY2⟩
          case measure => simp [intOf]; omega
        · have hkn : k = n := by omega
          subst hkn
          have HF : Hid (ys6 = Bt.enc ⟨a, b, d, tx, rs⟩) := by
            show _ = _
            have hnn := HN.out
            rw [HY.out, HX5.out, List.take_of_length_le (by omega)]
            simp [Bt.enc, hnn]
          have hst := str_now (P := Tryz.prog) hw.seen 22 9 5 l6 c6 hw.len Tryz.underlying22 Tryz.underlying5 Tryz.underlying9
          have hbf := hbw0.trans (hw.below.mono hbw0.size)
          clear HY
          go_wp2
          go_ret2
          exact ⟨ret_bytes HF.out, hbf⟩
/-- What Bytes hands back. -/
def BytesIs (b : Bt) (s : ByteArray) (er : Int) : Prop := (b.Good ∧ s = ⟨b.enc.toArray⟩ ∧ er = 0) ∨ (¬ b.Good ∧ s = ⟨#[]⟩ ∧ er = 2)
theorem bytesIs_of (b : Bt) : ∃ s er, BytesIs b s er := by
  by_cases h : b.Good
  · exact ⟨_, _, .inl ⟨h, rfl, rfl⟩⟩
  · exact ⟨_, _, .inr ⟨h, rfl, rfl⟩⟩
theorem good_nat {pid ep sq : Int} {tx : Bool} {rs : List Rc} (h : Bt.Good ⟨pid, ep, sq, tx, rs⟩) : ∃ a b d : Nat, pid = a ∧ ep = b ∧ sq = d :=
  ⟨pid.toNat, ep.toNat, sq.toNat, by have := h.1.1; simp only at this; omega, by have := h.2.1.1; simp only at this; omega, by have := h.2.2.2.1.1; simp only at this; omega⟩

section
variable (A : Option Addr) (n c B : Nat) (rs : List Rc) (pid ep sq : Int) (tx : Bool) (w : World)
theorem bytes_all (s : ByteArray) (er : Int) (h : BytesIs ⟨pid, ep, sq, tx, rs⟩ s er) (hn : rs.length = n) (hs : Seen w B A (rcells rs)) (hB : B ≤ w.heap.size) (hmax : n ≤ 9223372036854775807) (hsz : ∀ y ∈ rs, y.k.size ≤ 9223372036854775807 ∧ y.v.size ≤ 9223372036854775807) :
    Calls Tryz.prog 52 #[.agg #[.int .i64 pid, .int .i64 ep, .int .i64 sq, .bool tx, .slice A n c]] w fun e w' => e = .returned (.tuple #[.string s, .int .i64 er]) ∧ Below w.heap.size w w' := by
  rcases h with ⟨h1, rfl, rfl⟩ | ⟨h1, rfl, rfl⟩
  · obtain ⟨a, b, d, rfl, rfl, rfl⟩ := good_nat h1
    exact bytes_yes A n c B rs a b d tx w hn h1 hs hB
  · exact bytes_no A n c B rs pid ep sq tx w hn h1 hs hB hmax hsz
end
end Go.Proofs.YtfcifblbapadpaaGreatDoor
