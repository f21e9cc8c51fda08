/-
  Contracts of the document's own answers for rows (rovingref01's Row, ReadRow, Ints): what each returns and what it does to memory. Conditions: those that each theorem names.
-/
import Derived.Test.YtaoiafbjnpigaaaVarRowB
namespace Go.Proofs.Ytaoiafbjnpigaaa
open Go.RowKit

theorem ints_same_get {ns : List Nat} {i : Nat} (hi : i < ns.length) : ∃ n : Nat, (ints ns)[i]? = some (.int .i64 (n : Int)) :=
  ⟨ns[i], by rw [ints, List.getElem?_map, List.getElem?_eq_getElem hi]; rfl⟩

set_option maxRecDepth 100000 in
set_option maxHeartbeats 1000000 in
theorem ints_same (A1 A2 : Option Addr) (c1 c2 : Nat) (ns : List Nat) (ln B : Nat) (w : World) (hln : ln = ns.length) (h1 : Seen w B A1 (ints ns)) (h2 : Seen w B A2 (ints ns)) (hx : ln ≤ 1000000) :
    Calls Try.prog 20 #[.slice A1 ln c1, .slice A2 ln c2] w fun e w' => e = .returned (.bool true) ∧ ∃ q, w' = w.drewN q := by
  have HN := Lib.hid hln
  have hself : ((ln : Int) != (ln : Int)) = false := by simp
  clear hln
  go_enter Try.func20, Try.ntmps20
  go_wp2
  go_loopw [5] (fun i wr => ∃ k : Nat, k ≤ ln ∧ i = .int .i64 k ∧ ∃ q, wr = w.drewN q) (fun i _ => ln - (intOf i).toNat)
  case atStart => exact ⟨0, by omega, rfl, 0, rfl⟩
  case round =>
    obtain ⟨k, hk, rfl, q, rfl⟩ := hrel
    by_cases hlt : k < ln
    · obtain ⟨n, hn⟩ := ints_same_get (ns := ns) (i := k) (by have := HN.out; omega)
      obtain ⟨b, off, rfl, hb, hcb⟩ := h1 (by intro e; rw [e] at hn; simp at hn)
      obtain ⟨d, o, rfl, hd, hcd⟩ := h2 (by intro e; rw [e] at hn; simp at hn)
      have hb1 := hcb k _ hn
      have hd1 := hcd k _ hn
      have hne : ((n : Int) != (n : Int)) = false := by simp
      clear hcb hcd hn h1 h2
      go_wp2
      go_quiet (fail)
      go_wp2
      go_roundw
      case rel => exact ⟨k + 1, by omega, by go_num, _, rfl⟩
      case measure => simp [intOf]; omega
    · obtain rfl : k = ln := by omega
      clear h1 h2
      go_wp2
      go_ret
      exact ⟨rfl, q, rfl⟩

/-- The document's row behind k of its numbers. -/
def RefState (ns : List Int) (k : Nat) (xs : List UInt8) : Prop :=
  xs.length ≤ 6 * (k + 1) ∧ ∃ ms : List Nat, ns.take k = ms.map (fun m : Nat => (m : Int)) ∧ (∀ m ∈ ms, m ≤ 1099511627776) ∧ xs = VP.enc ns.length ++ VP.encs ms
theorem RefState.step {ns : List Int} {k : Nat} {xs : List UInt8} {n : Int} (h : RefState ns k xs) (hk : ns[k]? = some n) (h0 : 0 ≤ n) (h1 : n ≤ 1099511627776) : RefState ns (k + 1) (xs ++ VP.enc n.toNat) := by
  obtain ⟨hl, ms, h2, h3, h4⟩ := h
  have h6 := VP.enc_six (n := n.toNat) (by omega)
  refine ⟨by simp; omega, ms ++ [n.toNat], ?_, ?_, ?_⟩
  · rw [List.take_add_one, h2, hk]
    simp
    omega
  · intro m hm
    rcases List.mem_append.1 hm with hm | hm
    · exact h3 m hm
    · simp at hm; subst hm; omega
  · rw [h4, VP.encs_snoc, List.append_assoc]
theorem RefState.last {ns : List Int} {xs xs' : List UInt8} {er : Int} (h : RefState ns ns.length xs) (hr : RowIs ns xs' er) : er = 0 ∧ xs' = xs := by
  obtain ⟨hl, ms, h2, h3, h4⟩ := h
  have hs : RowState ns ns.length 0 xs := ⟨hl, .inl ⟨rfl, ms, h2, h3, h4⟩⟩
  rcases hs.last hr with ⟨_, h5, h6⟩ | ⟨h5, _⟩
  · exact ⟨h5, h6⟩
  · cases h5
theorem RowIs.bad {ns : List Int} {xs : List UInt8} {er n : Int} (h : RowIs ns xs er) (hn : n ∈ ns) (hb : n < 0 ∨ 1099511627776 < n) : xs = [] ∧ er = 2 := by
  rcases h with ⟨ms, h1, h2, _⟩ | ⟨_, h3, h4⟩
  · rw [h1, List.mem_map] at hn
    obtain ⟨m, hm, rfl⟩ := hn
    have := h2 m hm
    omega
  · exact ⟨h3, h4⟩

set_option maxRecDepth 100000 in
set_option maxHeartbeats 1000000 in
theorem ref_row_all (A : Option Addr) (c : Nat) (ns : List Int) (ln : Nat) (xs : List UInt8) (er : Int) (lx : Nat) (w : World) (hr : RowIs ns xs er) (hln : ln = ns.length) (hlx : lx = xs.length) (hs : Seen w w.heap.size A (ns.map (Value.int .i64))) (hx : ln ≤ 300) :
    Calls Try.prog 17 #[.slice A ln c] w fun e w' => ∃ A' c', e = .returned (.tuple #[.slice A' lx c', .int .i64 er]) ∧ Seen w' w'.heap.size A' (cells xs) ∧ lx ≤ c' ∧ Below w.heap.size w w' := by
  obtain ⟨x0, hx0⟩ : ∃ x0, x0 = VP.enc ln := ⟨_, rfl⟩
  obtain ⟨l0, hl0⟩ : ∃ l0, l0 = x0.length := ⟨_, rfl⟩
  have hst0 : RefState ns 0 x0 := by
    refine ⟨?_, [], by simp, by simp, by rw [hx0, hln]; simp [VP.encs]⟩
    rw [hx0]
    have := VP.enc_six (n := ln) (by omega)
    omega
  have HN := Lib.hid hln
  have HR := Lib.hid hr
  have HX := Lib.hid hlx
  have H0 := Lib.hid hx0
  have HL0 := Lib.hid hl0
  have HS := Lib.hid hst0
  clear hln hr hlx hx0 hl0 hst0
  go_enter Try.func17, Try.ntmps17
  go_wp2_with fail
  refine (ref_put_yes none 0 [] 0 ln x0 l0 rfl H0.out HL0.out _ (Seen.nil _ _ _) (by omega) (by omega)).mono ?_
  rintro e w1 ⟨A1, c1, rfl, hs1, hc1, hb1⟩
  go_wp2_with fail
  go_loopw [4, 6] (fun b i wr => ∃ (k lz d : Nat) (D : Option Addr) (zs : List UInt8), k ≤ ln ∧ i = .int .i64 k ∧ b = .slice D lz d ∧ Seen wr wr.heap.size D (cells zs) ∧ lz ≤ d ∧ lz ≤ 6 * (k + 1) ∧ Below w.heap.size w wr ∧ RefState ns k zs ∧ lz = zs.length) (fun _ i _ => ln - (intOf i).toNat)
  case atStart => exact ⟨0, l0, c1, A1, x0, by omega, rfl, rfl, hs1, hc1, by have := HS.out.1; have := HL0.out; omega, hb1, HS.out, HL0.out⟩
  case round =>
    obtain ⟨k, lz, d, D, zs, hk, rfl, rfl, hsz, hcd, hl6, hbw, hst, hlz⟩ := hrel
    have HST := Lib.hid hst
    have HLZ := Lib.hid hlz
    clear hst hlz hs1 hb1
    by_cases hlt : k < ln
    · have hk' : k < ns.length := by have := HN.out; omega
      obtain ⟨n, hn⟩ : ∃ n, ns[k]? = some n := ⟨_, List.getElem?_eq_getElem hk'⟩
      obtain ⟨b, off, rfl, hbB, hcell⟩ := hs (by intro e; simp at e; subst e; simp at hk')
      have hcx : wr.cell? ⟨b, off + k, none⟩ = some (.int .i64 n) := (hbw.cell (p := ⟨b, off + k, none⟩) hbB).trans (hcell k _ (by rw [List.getElem?_map, hn]; rfl))
      have hmem : n ∈ ns := List.mem_of_getElem? hn
      by_cases hbad : n < 0 ∨ 1099511627776 < n
      · obtain ⟨e1, e2⟩ := HR.out.bad hmem hbad
        have hl0 : lx = 0 := by rw [HX.out, e1]; rfl
        subst e1 e2 hl0
        have HBAD := Lib.hid hbad
        clear hcell hs hn hk' hmem hbad
        go_wp2_with fail
        refine (ref_put_no _ n _ HBAD.out).mono ?_
        rintro e w2 ⟨rfl, rfl⟩
        go_wp2
        go_ret2
        exact ⟨none, 0, rfl, Seen.nil _ _ _, Nat.le_refl _, hbw⟩
      · have hst2 := HST.out.step hn (by omega) (by omega)
        obtain ⟨m, rfl⟩ : ∃ m : Nat, n = m := ⟨n.toNat, by omega⟩
        rw [Int.toNat_natCast] at hst2
        obtain ⟨ys, hys⟩ : ∃ ys, ys = zs ++ VP.enc m := ⟨_, rfl⟩
        obtain ⟨ly, hly⟩ : ∃ ly, ly = ys.length := ⟨_, rfl⟩
        rw [← hys] at hst2
        have hly6 : ly ≤ 6 * (k + 1 + 1) := by rw [hly]; exact hst2.1
        have hm : m ≤ 1099511627776 := by omega
        have HY := Lib.hid hys
        have HLY := Lib.hid hly
        have HST2 := Lib.hid hst2
        clear hcell hs hn hk' hmem hbad hst2 hys hly
        go_wp2_with fail
        refine (ref_put_yes D d zs lz m ys ly HLZ.out HY.out HLY.out _ hsz (by omega) hm).mono ?_
        rintro e w2 ⟨A2, c2, rfl, hs2, hc2, hb2⟩
        have hbw2 := hbw.trans (hb2.mono hbw.size)
        clear hcx hsz hbw hb2
        go_wp2
        go_roundw
        case rel => exact ⟨k + 1, ly, c2, A2, ys, by omega, by go_num, rfl, hs2, hc2, hly6, hbw2, HST2.out, HLY.out⟩
        case measure => simp [intOf]; omega
    · obtain rfl : k = ln := by omega
      have hst := HST.out
      rw [HN.out] at hst
      obtain ⟨e1, e2⟩ := hst.last HR.out
      subst e1 e2
      have hle : lz = lx := by rw [HLZ.out, HX.out]
      subst hle
      clear hst hs
      go_wp2
      go_ret2
      exact ⟨D, d, rfl, hsz, hcd, hbw⟩

theorem ref_get_found (A : Option Addr) (c : Nat) (bs : List UInt8) (lb at_ n k bh : Nat) (w : World) (hlb : lb = bs.length) (hs : Seen w w.heap.size A (cells bs)) (hx : lb ≤ 1000000) (hat : at_ ≤ lb) (hd : VP.dec (bs.drop at_) = some (n, k)) (hbh : bh = at_ + k) :
    Calls Try.prog 13 #[.slice A lb c, .int .i64 (at_ : Int)] w fun e w' => e = .returned (.tuple #[.int .i64 (n : Int), .int .i64 (bh : Int), .int .i64 0]) ∧ w = w' := by
  refine (ref_get A c bs lb at_ w hlb hs hx hat).mono ?_
  rintro e w' ⟨hw, h1, _⟩
  subst hbh
  exact ⟨h1 n k hd, hw⟩
theorem ref_get_lost (A : Option Addr) (c : Nat) (bs : List UInt8) (lb at_ : Nat) (w : World) (hlb : lb = bs.length) (hs : Seen w w.heap.size A (cells bs)) (hx : lb ≤ 1000000) (hat : at_ ≤ lb) (hd : VP.dec (bs.drop at_) = none) :
    Calls Try.prog 13 #[.slice A lb c, .int .i64 (at_ : Int)] w fun e w' => e = .returned (.tuple #[.int .i64 0, .int .i64 0, .int .i64 70]) ∧ w = w' := by
  refine (ref_get A c bs lb at_ w hlb hs hx hat).mono ?_
  rintro e w' ⟨hw, _, h1⟩
  exact ⟨h1 hd, hw⟩

set_option maxRecDepth 100000 in
set_option maxHeartbeats 1000000 in
theorem ref_readrow_none (A : Option Addr) (c : Nat) (bs : List UInt8) (lb : Nat) (w : World) (hlb : lb = bs.length) (hs : Seen w w.heap.size A (cells bs)) (hx : lb ≤ 1000000) (hr : VP.dec bs = none ∨ ∃ cnt k, VP.dec bs = some (cnt, k) ∧ lb < cnt) :
    Calls Try.prog 19 #[.slice A lb c] w fun e w' => e = .returned (.tuple #[.slice none 0 0, .int .i64 70]) ∧ w = w' := by
  have HB := Lib.hid hlb
  clear hlb
  rcases hr with hd | ⟨cnt, k, hd, hm⟩
  · have HD := Lib.hid hd
    clear hd
    go_enter Try.func19, Try.ntmps19
    go_wp2_with fail
    refine (ref_get_lost A c bs lb 0 _ HB.out hs hx (by omega) (by simpa using HD.out)).mono ?_
    rintro e w1 ⟨rfl, rfl⟩
    go_wp2
    go_ret2
    exact ⟨rfl, rfl⟩
  · have HD := Lib.hid hd
    clear hd
    have hm' : decide (lb < cnt) = true := by simpa using hm
    go_enter Try.func19, Try.ntmps19
    go_wp2_with fail
    refine (ref_get_found A c bs lb 0 cnt k k _ HB.out hs hx (by omega) (by simpa using HD.out) (by omega)).mono ?_
    rintro e w1 ⟨rfl, rfl⟩
    go_wp2
    go_ret2
    exact ⟨rfl, rfl⟩

set_option maxRecDepth 100000 in
set_option maxHeartbeats 1000000 in
theorem ref_readrow_all (A : Option Addr) (c : Nat) (bs : List UInt8) (lb : Nat) (ns : List Nat) (er : Int) (ln : Nat) (w : World) (hr : ReadIs bs ns er) (hlb : lb = bs.length) (hln : ln = ns.length) (hs : Seen w w.heap.size A (cells bs)) (hx : lb ≤ 1000000) :
    Calls Try.prog 19 #[.slice A lb c] w fun e w' => ∃ A' c', e = .returned (.tuple #[.slice A' ln c', .int .i64 er]) ∧ Seen w' w'.heap.size A' (ints ns) ∧ ln ≤ c' ∧ Below w.heap.size w w' := by
  obtain ⟨i0, hi0, hz0, hz1, hz2⟩ := info_parts int_info
  by_cases hfar : VP.dec bs = none ∨ ∃ cnt k, VP.dec bs = some (cnt, k) ∧ lb < cnt
  · have hn : VP.readRow bs = none := by
      rcases hfar with hd | ⟨cnt, k, hd, hm⟩
      · exact readRow_first hd
      · exact readRow_many hd (by omega)
    obtain ⟨h1, h2⟩ := hr.none_ hn
    have hl0 : ln = 0 := by rw [hln, h1]; rfl
    subst h1 h2 hl0
    refine (ref_readrow_none A c bs lb w hlb hs hx hfar).mono ?_
    rintro e w' ⟨rfl, rfl⟩
    exact ⟨none, 0, rfl, Seen.nil _ _ _, Nat.le_refl _, Below.refl _ _⟩
  · rcases hd : VP.dec bs with _ | ⟨cnt, k⟩
    · exact absurd (Or.inl hd) hfar
    · have hcl : cnt ≤ lb := by
        rcases Nat.lt_or_ge lb cnt with h | h
        · exact absurd (Or.inr ⟨cnt, k, hd, h⟩) hfar
        · exact h
      have hcd : decide (lb < cnt) = false := by simpa using hcl
      obtain ⟨_, hk0, hkl, hk6, _⟩ := VP.dec_only hd
      rw [← hlb] at hkl
      obtain ⟨r, hrt⟩ : ∃ r, r = VP.takes cnt (bs.drop k) := ⟨_, rfl⟩
      have htr := Toread.start bs k cnt
      rw [← hrt] at htr
      have HT := Lib.hid htr
      have HRT := Lib.hid hrt
      have HB := Lib.hid hlb
      have HN := Lib.hid hln
      have HR := Lib.hid hr
      have HD := Lib.hid hd
      clear hfar htr hrt hlb hln hr hd
      go_enter Try.func19, Try.ntmps19
      go_wp2_with fail
      refine (ref_get_found A c bs lb 0 cnt k k _ HB.out hs hx (by omega) (by simpa using HD.out) (by omega)).mono ?_
      rintro e w1 ⟨rfl, rfl⟩
      go_wp2_with fail
      go_loopw [7, 8, 5] (fun l i p wr => ∃ (m j : Nat) (ms : List Nat), m ≤ cnt ∧ i = .int .i64 m ∧ p = .int .i64 ((k + j : Nat) : Int) ∧ wr.ownsRow w.heap.size 3 1 l m (ints ms) ∧ Below w.heap.size w wr ∧ k + j ≤ lb ∧ Toread bs k cnt m j ms r) (fun _ i _ _ => cnt - (intOf i).toNat)
      case atStart => exact ⟨0, 0, [], by omega, rfl, rfl, World.ownsRow_nil _ _ _ _, Below.refl _ _, hkl, HT.out⟩
      case round =>
        obtain ⟨m, j, ms, hm, rfl, hp, hown, hbw, hkj, htr⟩ := hrel
        obtain ⟨p, hpe⟩ : ∃ p, p = k + j := ⟨_, rfl⟩
        rw [← hpe] at hp hkj
        subst hp
        have HPE := Lib.hid hpe
        have HTR := Lib.hid htr
        have hsz := hbw.size
        have hsr := (hs.below hbw).up hsz
        clear htr hpe
        by_cases hlt : m < cnt
        · rcases hd : VP.dec (bs.drop (k + j)) with _ | ⟨n, j2⟩
          · obtain ⟨h1, h2⟩ := HR.out.none_ (readRow_stops HD.out (by rw [← HRT.out]; exact HTR.out.none_ hlt hd))
            have hl0 : ln = 0 := by rw [HN.out, h1]; rfl
            subst h1 h2 hl0
            have HDD := Lib.hid hd
            clear hd hown
            go_wp2_with fail
            refine (ref_get_lost A c bs lb p _ HB.out hsr hx hkj (by rw [HPE.out]; exact HDD.out)).mono ?_
            rintro e w2 ⟨rfl, rfl⟩
            go_wp2
            go_ret2
            exact ⟨none, 0, rfl, Seen.nil _ _ _, Nat.le_refl _, hbw⟩
          · have htr2 := HTR.out.step hlt hd
            have hj2 := (VP.dec_only hd).2.2.1
            rw [List.length_drop, ← HB.out, ← HPE.out] at hj2
            obtain ⟨p2, hp2⟩ : ∃ p2, p2 = p + j2 := ⟨_, rfl⟩
            have hp2l : p2 ≤ lb := by omega
            have HP2 := Lib.hid hp2
            have HT2 := Lib.hid htr2
            have HDD := Lib.hid hd
            clear hd htr2 hp2
            go_wp2_with fail
            refine (ref_get_found A c bs lb p n j2 p2 _ HB.out hsr hx hkj (by rw [HPE.out]; exact HDD.out) HP2.out).mono ?_
            rintro e w2 ⟨rfl, rfl⟩
            go_wp2_with (at_builtin; refine wpList_append_own _ rfl _ _ 31 rfl w.heap.size 3 i0 (.int .i64 0) 1 8 Try.underlying31 hi0 hz0 hz1 hz2 rfl (by decide) _ _ _ rfl (hown.alloc _) ⟨wr.heap.size, 0, none⟩ 1 1 [.int .i64 (n : Int)] rfl rfl ?c1 ?c2 ?c3 ?c4 ?c5 ?_)
            case c1 => exact cell_one_new _ _ _
            case c2 => intro u hu; simp at hu; subst hu; rfl
            case c3 => unfold maxLen; omega
            case c4 => omega
            case c5 => simp; omega
            intro v' w3 hown3 hgrow _
            rw [← ints_snoc] at hown3
            have hbw3 := hbw.trans (((Below.refl w.heap.size wr).alloc hsz (.cells #[.int .i64 (n : Int)] 3)).grown hgrow (by simp; omega) (fun k hk => (hown.lt k hk).1))
            clear hgrow hown hbw hsr
            go_wp2
            go_roundw
            case rel => exact ⟨m + 1, j + j2, ms ++ [n], by omega, by go_num, by have := HP2.out; have := HPE.out; congr 1; omega, hown3, hbw3, by have := HP2.out; have := HPE.out; omega, HT2.out⟩
            case measure => simp [intOf]; omega
        · obtain rfl : m = cnt := by omega
          have hlast := HTR.out.last
          rw [HRT.out] at hlast
          have hend := readRow_end HD.out hlast
          rw [← HPE.out, ← HB.out] at hend
          have hml := HTR.out.1
          obtain ⟨A', c', rfl, hs', hc'⟩ := own_form hown
          by_cases hall : p = lb
          · rw [if_pos hall] at hend
            obtain ⟨h1, h2⟩ := HR.out.some_ hend
            subst h1 h2 hall
            have hlc : ln = m := by rw [HN.out]; exact hml
            subst hlc
            have hself : ((p : Int) != (p : Int)) = false := by simp
            clear hend hlast hml hown hs hsr
            go_wp2
            go_ret2
            exact ⟨A', c', rfl, hs', hc', hbw⟩
          · rw [if_neg hall] at hend
            obtain ⟨h1, h2⟩ := HR.out.none_ hend
            have hl0 : ln = 0 := by rw [HN.out, h1]; rfl
            subst h1 h2 hl0
            have hne : ((p : Int) != (lb : Int)) = true := by simp; omega
            clear hend hlast hml hown hs hsr hs'
            go_wp2
            go_ret2
            exact ⟨none, 0, rfl, Seen.nil _ _ _, Nat.le_refl _, hbw⟩

end Go.Proofs.Ytaoiafbjnpigaaa
