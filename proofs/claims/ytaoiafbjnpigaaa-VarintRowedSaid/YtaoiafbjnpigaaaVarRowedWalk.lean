/-
  The walk over VarintRowed: it returns true and turns nothing that was there. Condition: what is said of the slice and the byte that came in.
-/
import Derived.Test.YtaoiafbjnpigaaaVarRowsWalk
namespace Go.Proofs.Ytaoiafbjnpigaaa
open Go.RowKit

theorem ints_cast (ms : List Nat) : (ms.map (fun m : Nat => (m : Int))).map (Value.int .i64) = ints ms := by
  rw [List.map_map]; rfl

theorem cells_snoc (xs : List UInt8) (x : UInt8) : cells (xs ++ [x]) = cells xs ++ [.int .u8 (x.toNat : Int)] := by simp [cells]

set_option maxRecDepth 100000 in
set_option maxHeartbeats 1000000 in
theorem rowed_bad (L : Option Addr) (cl : Nat) (ns : List Int) (ln : Nat) (x : Int) (w : World) (hln : ln = ns.length) (hsl : Seen w w.heap.size L (ns.map (Value.int .i64))) (hx : ln ≤ 300) (hr : RowIs ns [] 2) :
    Calls Try.prog 8 #[.slice L ln cl, .int .u8 x] w fun e w' => e = .returned (.bool true) ∧ Below w.heap.size w w' := by
  have HR := Lib.hid hr
  have HN := Lib.hid hln
  clear hr hln
  go_enter Try.func8, Try.ntmps8
  go_wp2_with fail
  refine (row_all L cl ns ln [] 2 0 _ HR.out HN.out rfl hsl hx).mono ?_
  rintro e w1 ⟨A1, c1, rfl, _, _, hb1⟩
  go_wp2_with fail
  refine (wakes_any _).mono ?_
  rintro e w2 ⟨rfl, hb2⟩
  go_wp2
  go_ret
  exact ⟨rfl, hb1.trans (hb2.mono hb1.size)⟩

set_option maxRecDepth 100000 in
set_option maxHeartbeats 1000000 in
theorem rowed_good (L : Option Addr) (cl : Nat) (ns : List Int) (ms : List Nat) (ln : Nat) (x : UInt8) (w : World) (hln : ln = ns.length) (hns : ns = ms.map (fun m : Nat => (m : Int))) (hms : ∀ m ∈ ms, m ≤ 1099511627776)
    (hsl : Seen w w.heap.size L (ns.map (Value.int .i64))) (hx : ln ≤ 300) :
    Calls Try.prog 8 #[.slice L ln cl, .int .u8 (x.toNat : Int)] w fun e w' => e = .returned (.bool true) ∧ Below w.heap.size w w' := by
  obtain ⟨i0, hi0, hz0, hz1, hz2⟩ := info_parts u8_info
  have hr : RowIs ns (VP.rowBytes ms) 0 := .inl ⟨ms, hns, hms, rfl, rfl⟩
  have hlm : ln = ms.length := by rw [hln, hns]; simp
  have hbig : ms.length ≤ 1099511627776 := by omega
  have hlen := VP.rowBytes_le (by omega) hms
  have hsm : Seen w w.heap.size L (ints ms) := by rw [← ints_cast, ← hns]; exact hsl
  obtain ⟨xs, hxs⟩ : ∃ xs, xs = VP.rowBytes ms := ⟨_, rfl⟩
  obtain ⟨q, hq⟩ : ∃ q, q + 1 = xs.length := ⟨xs.length - 1, by have := VP.rowBytes_pos ms; rw [hxs]; omega⟩
  have hread : ReadIs xs ms 0 := .inl ⟨by rw [hxs]; exact VP.readRow_row ms hbig hms, rfl⟩
  have hless : ReadIs (xs.take q) [] 70 := .inr ⟨by rw [hxs]; exact VP.readRow_less ms hbig hms q (by rw [← hxs]; omega), rfl, rfl⟩
  have hmore : ReadIs (xs ++ [x]) [] 70 := .inr ⟨by rw [hxs]; exact VP.readRow_more ms hbig hms x, rfl, rfl⟩
  rw [← hxs] at hr hlen
  have hq2 : q ≤ 1806 := by omega
  have hqt : q = (xs.take q).length := by rw [List.length_take]; omega
  have hqm : q + 1 + 1 = (xs ++ [x]).length := by simp; omega
  have HR := Lib.hid hr
  have HN := Lib.hid hln
  have HM := Lib.hid hlm
  have HQ := Lib.hid hq
  have HREAD := Lib.hid hread
  have HLESS := Lib.hid hless
  have HMORE := Lib.hid hmore
  have HQT := Lib.hid hqt
  have HQM := Lib.hid hqm
  clear hr hln hlm hxs hq hread hless hmore hqt hqm hms hns hlen hbig
  obtain ⟨y, hy⟩ : ∃ y : Int, y = (x.toNat : Int) := ⟨_, rfl⟩
  rw [← hy]
  have HY := Lib.hid hy
  clear hy
  go_enter Try.func8, Try.ntmps8
  go_wp2_with fail
  refine (row_all L cl ns ln xs 0 (q + 1) _ HR.out HN.out HQ.out hsl hx).mono ?_
  rintro e w1 ⟨A1, c1, rfl, hs1, hc1, hb1⟩
  go_wp2_with fail
  refine (readrow_all A1 c1 xs (q + 1) ms 0 ln _ HREAD.out HQ.out HM.out hs1 (by omega) hc1).mono ?_
  rintro e w2 ⟨A2, c2, rfl, hs2, hc2, hb2⟩
  have hbw2 := hb1.trans (hb2.mono hb1.size)
  go_wp2_with fail
  refine (ints_same A2 L c2 cl ms ln _ _ HM.out hs2 ((hsm.below hbw2).up hbw2.size) (by omega)).mono ?_
  rintro e w3 ⟨rfl, d, rfl⟩
  have hb13 := below_drewN hb2 d
  have hbw3 := below_drewN hbw2 d
  have hs13 := (hs1.below hb13).up hb13.size
  obtain ⟨D, hcut, hsd⟩ := cut_to (P := Try.prog) hs13 22 5 Try.underlying22 u8_size c1 q (by have := HQ.out; omega) (by have := HQ.out; omega)
  rw [← HQ.out] at hcut
  clear hsl hsm hs1 hs2 hb1 hb2 hbw2 hb13
  obtain ⟨W, hW⟩ : ∃ W, W = w2.drewN d := ⟨_, rfl⟩
  rw [← hW] at hbw3 hs13 hsd ⊢
  clear hW
  go_wp2_with fail
  refine (readrow_all D c1 (xs.take q) q [] 70 0 _ HLESS.out HQT.out rfl hsd (by omega) (by omega)).mono ?_
  rintro e w4 ⟨A4, c4, rfl, _, _, hb4⟩
  have hbw4 := hbw3.trans (hb4.mono hbw3.size)
  have hs14 := (hs13.below hb4).up hb4.size
  clear hs13 hsd hcut hb4 hbw3
  have hbz : Below w4.heap.size w4 (w4.alloc (.cells #[] 5)) := (Below.refl _ _).alloc (Nat.le_refl _) _
  have hown0 : (w4.alloc (.cells #[] 5)).ownsRow w4.heap.size 5 1 (.slice (some ⟨w4.heap.size, 0, none⟩) 0 0) 0 [] := World.ownsRow_made w4 #[] 0 (Nat.le_refl _) (by unfold maxLen; omega) rfl
  have hs15 := hs14.below hbz
  go_wp2_with (at_builtin; refine wpList_append_seen rfl (.tmp 58) (.tmp 59) 22 rfl w4.heap.size 5 i0 (.int .u8 0) 1 Try.underlying22 hi0 hz0 hz1 hz2 rfl _ 0 [] rfl hown0 w4.heap.size A1 (q + 1) c1 (cells xs) rfl ?c0 hs15 (cells_one _) ?c1 ?c2 ?c3 ?_)
  case c0 => rw [cells_length]; exact HQ.out.symm
  case c1 => unfold maxLen; omega
  case c2 => omega
  case c3 => simp
  intro v5 w5 hown5 hb5
  have hb45 := hbz.trans hb5
  have hz45 := hb45.size
  clear hown0 hs14 hs15 hbz hb5
  go_wp2_with (at_builtin; refine wpList_append_own _ rfl (.tmp 60) (.tmp 62) 22 rfl w4.heap.size 5 i0 (.int .u8 0) 1 1 Try.underlying22 hi0 hz0 hz1 hz2 rfl (by decide) _ _ _ rfl (hown5.alloc _) ⟨w5.heap.size, 0, none⟩ 1 1 [.int .u8 y] rfl rfl ?d1 ?d2 ?d3 ?d4 ?d5 ?_)
  case d1 => exact cell_one_new _ _ _
  case d2 => intro u hu; simp at hu; subst hu; rfl
  case d3 => unfold maxLen; omega
  case d4 => omega
  case d5 => simp; omega
  intro v6 w6 hown6 hgrow _
  have hb46 : Below w4.heap.size w4 w6 := hb45.trans (((Below.refl w4.heap.size w5).alloc hz45 (.cells #[.int .u8 y] 5)).grown hgrow (by simp; omega) (fun k hk => (hown5.lt k hk).1))
  have hbw6 := hbw4.trans (hb46.mono hbw4.size)
  rw [HY.out, ← cells_snoc] at hown6
  obtain ⟨A6, c6, rfl, hs6, hc6⟩ := own_form hown6
  clear hown5 hown6 hgrow hb45 hb46
  go_wp2_with fail
  refine (readrow_all A6 c6 (xs ++ [x]) (q + 1 + 1) [] 70 0 _ HMORE.out HQM.out rfl hs6 (by omega) hc6).mono ?_
  rintro e w7 ⟨A7, c7, rfl, _, _, hb7⟩
  have hbw7 := hbw6.trans (hb7.mono hbw6.size)
  clear hs6 hb7 hbw6
  go_wp2_with fail
  refine (wakes_any _).mono ?_
  rintro e w8 ⟨rfl, hb8⟩
  go_wp2
  go_ret
  exact ⟨rfl, hbw7.trans (hb8.mono hbw7.size)⟩

set_option maxRecDepth 100000 in
theorem rowed_long (L : Option Addr) (cl ln : Nat) (x : Int) (w : World) (hx : 300 < ln) (hl : ln ≤ 9223372036854775807) :
    Calls Try.prog 8 #[.slice L ln cl, .int .u8 x] w fun e w' => e = .returned (.bool true) ∧ Below w.heap.size w w' := by
  go_enter Try.func8, Try.ntmps8
  go_wp2_with fail
  refine (wakes_any _).mono ?_
  rintro e w1 ⟨rfl, hb⟩
  go_wp2
  go_ret
  exact ⟨rfl, hb⟩

theorem rowed_walk (a0 : Option Addr) (len0 cap0 : Nat) (z0 : List Int) (a1 : Int) (w : World) (w0 : IsRow .i64 w a0 len0 cap0 z0) (w1 : (Lit.int .u8 a1).wf = true) :
    Calls Try.prog 8 #[.slice a0 len0 cap0, .int .u8 a1] w fun e w' => e = .returned (.bool true) ∧ Below w.heap.size w w' := by
  obtain ⟨ns, hln, hsl, hl, hm, _⟩ := ints_in w0
  unfold maxLen at hm
  by_cases hx : 300 < len0
  · exact rowed_long a0 cap0 len0 a1 w hx (by omega)
  · obtain ⟨xs, er, hr⟩ := rowIs_of ns
    rcases hr with ⟨ms, h1, h2, rfl, rfl⟩ | ⟨h1, rfl, rfl⟩
    · have hb := bounds_u8 w1
      obtain ⟨x, rfl⟩ : ∃ x : UInt8, a1 = (x.toNat : Int) := ⟨UInt8.ofNat a1.toNat, by rw [VP.toNat_ofNat (by omega)]; omega⟩
      exact rowed_good a0 cap0 ns ms len0 x w hln h1 h2 hsl (by omega)
    · exact rowed_bad a0 cap0 ns len0 a1 w hln hsl (by omega) (.inr ⟨h1, rfl, rfl⟩)

end Go.Proofs.Ytaoiafbjnpigaaa
