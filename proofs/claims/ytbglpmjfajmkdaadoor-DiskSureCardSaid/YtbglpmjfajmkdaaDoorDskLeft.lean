/-
  The law DiskLeft: its walk. Conditions: those that each theorem names.
-/
import Derived.Test.YtbglpmjfajmkdaaDoorDskWakes
import Derived.Test.YtbglpmjfajmkdaaDoorDskWr
import Derived.Test.YtbglpmjfajmkdaaDoorDskLeftPlain
namespace Go.Proofs.YtbglpmjfajmkdaaDoor
open Go.RowKit DP

set_option maxRecDepth 100000 in
set_option maxHeartbeats 1000000 in
theorem left_great (A : Option Addr) (n c : Nat) (l : List Wr) (k : Int) (w : World) (hn : l.length = n) (hs : Seen w w.heap.size A (wcells l)) (hmax : n ≤ 9223372036854775807) (hsz : ∀ x ∈ l, x.b.size ≤ 9223372036854775807 ∧ x.file.size ≤ 9223372036854775807) (hG : Glob w) (hgr : greatW l = true) :
    Calls Tryd.prog 7 #[.slice A n c, .int .i64 k] w fun e w' => e = .returned (.bool true) ∧ Below w.heap.size w w' := by
  have HG := Lib.hid hG
  have HN := Lib.hid hn
  have HGR := Lib.hid hgr
  clear hn hG hgr
  go_enter Tryd.func7, Tryd.ntmps7
  go_wp2_with fail
  refine (greatW_any A n c w.heap.size l true _ HN.out HGR.out hs (Nat.le_refl _) hmax hsz).mono ?_
  rintro e W1 ⟨rfl, hb1⟩
  go_wp2_with fail
  refine (wakes_any _ (HG.out.next hb1)).mono ?_
  rintro e W2 ⟨rfl, hx⟩
  have hb2 := hb1.trans (hx.mono hb1.size)
  go_wp2
  go_ret
  exact ⟨rfl, hb2⟩

theorem left_n (k : Int) : ∃ N : Nat, (wrap64 (k.tmod 50 + 50)).tmod 50 = (N : Int) ∧ N ≤ 49 := by
  have h1 : k.tmod 50 < 50 := Int.tmod_lt_of_pos k (by decide)
  have h2 : -50 < k.tmod 50 := Int.lt_tmod_of_pos k (by decide)
  have h3 : wrap64 (k.tmod 50 + 50) = k.tmod 50 + 50 := by
    unfold wrap64
    omega
  rw [h3, Int.tmod_eq_emod_of_nonneg (by omega)]
  exact ⟨((k.tmod 50 + 50) % 50).toNat, by omega, by omega⟩
theorem left_check (N : Nat) : check ⟨[], 65536, N, false⟩ = true := check_mk (by simp) (by simp) (by simp) (by simp [used]) (by rfl)
theorem left_arm (N : Nat) : arm ⟨[], 65536, -1, false⟩ N = (⟨[], 65536, N, false⟩, 0) := by
  have hc : check ⟨[], 65536, -1, false⟩ = true := by decide
  unfold arm
  rw [if_neg (by rw [hc]; simp), show max (N : Int) (-1) = N by omega]

/-- What the law has at each turn: a valid disk, so many operations done, so many left. -/
def LeftRel (N g : Nat) (w wx : World) (dk : Nat) : Prop :=
  ∃ (fs : List Fl) (A : Option Addr) (m c : Nat) (cap left : Int) (down : Bool), fs.length = m ∧ Seen wx wx.heap.size A (fcells fs) ∧ Var wx g 24 #[.slice A m c, .int .i64 cap, .int .i64 left, .bool down] ∧
    check ⟨fs, cap, left, down⟩ = true ∧ left = (N : Int) - (dk : Int) ∧ dk ≤ N ∧ (down = true → dk = N) ∧ w.heap.size ≤ g ∧ Below w.heap.size w wx
theorem LeftRel.step {N g dk m c : Nat} {w w6 : World} {fs : List Fl} {A : Option Addr} {cap left : Int} {down : Bool} {o0 o1 o2 o3 : Value} (hl : fs.length = m) (hs : Seen w6 w6.heap.size A (fcells fs)) (hv : Var w6 g 24 #[o0, o1, o2, o3])
    (ho : ∀ (i : Nat) (s : ByteArray), (#[o0, o1, o2, o3] : Array Value)[i]? ≠ some (Value.string s)) (hc : check ⟨fs, cap, left, down⟩ = true) (hle : left = (N : Int) - (dk : Int)) (hdk : dk ≤ N) (hdd : down = true → dk = N) (hg : w.heap.size ≤ g) (hb : Below w.heap.size w w6) :
    LeftRel N g w ((((w6.setCell ⟨g, 0, none⟩ (.slice A m c)).setCell ⟨g, 1, none⟩ (.int .i64 cap)).setCell ⟨g, 2, none⟩ (.int .i64 left)).setCell ⟨g, 3, none⟩ (.bool down)) dk :=
  have ha := seen_apart hs hv ho
  ⟨fs, A, m, c, cap, left, down, hl, ((((hs.off ha).off ha).off ha).off ha).up (by simp), set4_var hv, hc, hle, hdk, hdd, hg, hb.trans (set4_below hg)⟩
theorem LeftRel.alloc {N g dk : Nat} {w wx : World} (h : LeftRel N g w wx dk) (o : Obj) : LeftRel N g w (wx.alloc o) dk := by
  obtain ⟨fs, A, m, c, cap, left, down, hl, hs, hv, hc, hle, hdk, hdd, hg, hb⟩ := h
  exact ⟨fs, A, m, c, cap, left, down, hl, (hs.below ((Below.refl _ wx).alloc (Nat.le_refl _) o)).up (by simp), hv.alloc o, hc, hle, hdk, hdd, hg, hb.alloc hb.size o⟩
theorem greatW_parts {l : List Wr} (h : greatW l = false) : l.length ≤ 100 ∧ ∀ x ∈ l, x.b.size ≤ 4096 ∧ x.file.size ≤ 100 := by
  unfold greatW at h
  rw [Bool.or_eq_false_iff] at h
  have h1 := of_decide_eq_false h.1
  refine ⟨by omega, fun x hx => ?_⟩
  have h2 := List.any_eq_false.1 h.2 x hx
  unfold greatW1 at h2
  simp only [Bool.or_eq_true, decide_eq_true_eq, not_or] at h2
  omega

set_option maxRecDepth 100000 in
set_option maxHeartbeats 2000000 in
theorem left_main (A : Option Addr) (n c : Nat) (l : List Wr) (k : Int) (w : World) (hn : l.length = n) (hs : Seen w w.heap.size A (wcells l)) (hmax : n ≤ 9223372036854775807) (hsz : ∀ x ∈ l, x.b.size ≤ 9223372036854775807 ∧ x.file.size ≤ 9223372036854775807) (hG : Glob w) (hgr : greatW l = false) :
    Calls Tryd.prog 7 #[.slice A n c, .int .i64 k] w fun e w' => e = .returned (.bool true) ∧ Below w.heap.size w w' := by
  have HG := Lib.hid hG
  have HN := Lib.hid hn
  have HGR := Lib.hid hgr
  clear hn hG hgr
  go_enter Tryd.func7, Tryd.ntmps7
  go_wp2_with fail
  refine (greatW_any A n c w.heap.size l false _ HN.out HGR.out hs (Nat.le_refl _) hmax hsz).mono ?_
  rintro e W1 ⟨rfl, hb1⟩
  obtain ⟨N, hN, hN49⟩ := left_n k
  go_wp2_with fail
  clear hN
  refine (new_any 65536 65536 (-1) [] false 0 _ (by rfl)).mono ?_
  rintro e W2 ⟨A2, m2, c2, rfl, hl2, hs2, hc2, hx⟩
  have hb2 := hb1.trans (hx.mono hb1.size)
  clear hx hb1
  go_wp2_with fail
  obtain ⟨W3, hW3⟩ : ∃ W3, W3 = W2.alloc (.cells #[.slice A2 m2 c2, .int .i64 65536, .int .i64 (-1), .bool false] 24) := ⟨_, rfl⟩
  obtain ⟨g, hg⟩ : ∃ g, g = W2.heap.size := ⟨_, rfl⟩
  have v3 : Var W3 g 24 #[.slice A2 m2 c2, .int .i64 65536, .int .i64 (-1), .bool false] := by rw [hW3, hg]; exact new1 W2 _ _
  have hb3 : Below w.heap.size w W3 := by rw [hW3]; exact hb2.alloc hb2.size _
  have hs3 : Seen W3 W3.heap.size A2 (fcells []) := Seen.nil _ _ _
  have hgw : w.heap.size ≤ g := by rw [hg]; exact hb2.size
  have HL2 := Lib.hid hl2
  rw [← hW3, ← hg]
  clear hW3 hg hb2 hs2 hl2
  obtain ⟨d0, d1, d2, d3, f1⟩ := v3.cells4
  have hlt3 := v3.lt
  go_wp2_with fail
  refine (arm_any A2 m2 c2 W3.heap.size [] [] 65536 (-1) N 65536 N false false 0 _ HL2.out hs3 (Nat.le_refl _) ⟨by simp, fun f hf => by cases hf⟩ (left_arm N)).mono ?_
  rintro e W4 ⟨A4, m4, c4, rfl, hl4, hs4, hc4, hx⟩
  have v4 := v3.below hx v3.lt
  have hb4 := hb3.trans (hx.mono hb3.size)
  have hlt4 := v4.lt
  clear hx d0 d1 d2 d3 f1 v3 hb3 hs3 hlt3
  have hrel0 := LeftRel.step (N := N) (g := g) (dk := 0) (w := w) (c := c4) (cap := 65536) (left := N) (down := false) hl4 hs4 v4 disk_noText (left_check N) (by omega) (by omega) (fun h => by cases h) hgw hb4
  obtain ⟨d0, d1, d2, d3, f1⟩ := v4.cells4
  have HREL := Lib.hid hrel0
  have HG4 := HG
  clear hrel0
  go_wp2_with fail
  have hrel1 := HREL.out
  clear HREL hs4 hb4 v4 d0 d1 d2 d3 f1 hl4 hlt4 hc4 HL2 hc2
  obtain ⟨hn100, hsz2⟩ := greatW_parts HGR.out
  rw [HN.out] at hn100
  have HSZ := Lib.hid hsz2
  clear hsz hsz2
  go_loopw [8, 40] (fun dn i wr => ∃ (j dk : Nat), j ≤ n ∧ i = .int .i64 j ∧ dn = .int .i64 dk ∧ LeftRel N g w wr dk) (fun _ i _ => n - (intOf i).toNat)
  case atStart => exact ⟨0, 0, by omega, rfl, rfl, hrel1⟩
  case round =>
    obtain ⟨j, dk, hj, rfl, rfl, hrl⟩ := hrel
    obtain ⟨fs, A5, m5, c5, cap, left, down, hl5, hs5, v5, hc5, hle, hdk, hdd, _, hb5⟩ := hrl
    have HL5 := Lib.hid hl5
    have HC5 := Lib.hid hc5
    have HDD := Lib.hid hdd
    have HLE := Lib.hid hle
    clear hl5 hc5 hdd hle
    have hG5 : Glob _ := HG.out.next hb5
    obtain ⟨d0, d1, d2, d3, f1⟩ := v5.cells4
    have hlt5 := v5.lt
    by_cases hlt : j < n
    · obtain ⟨x, hx⟩ := write_here HN.out hlt
      obtain ⟨hx1, hx2⟩ := HSZ.out x (List.mem_of_getElem? hx)
      obtain ⟨bb, off, rfl, hbb, q0, q1, q2, q3⟩ := write_at (hs.below hb5) hx
      have hbw := hb5.size
      obtain ⟨op, file, b, num⟩ := x
      simp only at hx1 hx2 q0 q1 q2 q3
      clear hx
      obtain ⟨fs', cap', left', down', r, hdo⟩ : ∃ fs' cap' left' down' r, does ⟨fs, cap, left, down⟩ ⟨op, file, b, num⟩ = (⟨fs', cap', left', down'⟩, r) := ⟨_, _, _, _, _, rfl⟩
      have hst := left_step HC5.out (by have := HLE.out; show 0 ≤ left; omega) hdo
      have HDO := Lib.hid hdo
      have HST := Lib.hid hst
      clear hdo hst
      have hlb : left ≤ 9223372036854775807 := by have := HLE.out; omega
      have hlb' : -9223372036854775808 ≤ left := by have := HLE.out; omega
      have hsm := check_small HC5.out
      have HSM := Lib.hid hsm
      clear hsm
      have hstay : ∀ wx, Below wr.heap.size wr wx → LeftRel N g w wx dk := fun wx hb => ⟨fs, A5, m5, c5, cap, left, down, HL5.out, (hs5.below hb).up hb.size, v5.below hb v5.lt, HC5.out, HLE.out, hdk, HDD.out, hgw, hb5.trans (hb.mono hb5.size)⟩
      have HSTAY := Lib.hid hstay
      clear hstay
      go_wp2_with fail
      obtain ⟨W6, hW6⟩ : ∃ W6, W6 = wr.alloc (.cells #[.int .i8 op, .string file, .string b, .int .i64 num] 27) := ⟨_, rfl⟩
      obtain ⟨gw, hgw6⟩ : ∃ gw, gw = wr.heap.size := ⟨_, rfl⟩
      have hx6 : Below wr.heap.size wr W6 := by rw [hW6]; exact bel1 wr _ _
      have v6 := v5.below hx6 v5.lt
      have hs6 := (hs5.below hx6).up hx6.size
      have hG6 := hG5.next hx6
      rw [← hW6, ← hgw6]
      clear hW6 hgw6 d0 d1 d2 d3 f1 q0 q1 q2 q3
      obtain ⟨d0, d1, d2, d3, f1⟩ := v6.cells4
      have hlt6 := v6.lt
      refine (do_any A5 m5 c5 W6.heap.size fs fs' cap left cap' left' down down' op file b num r _ hG6 HL5.out hs6 (Nat.le_refl _) HSM.out (by omega) (by omega) hlb hlb' HDO.out).mono ?_
      rintro e w7 ⟨A7, m7, c7, rfl, hl7, hs7, hm7, hx7⟩
      have HL7 := Lib.hid hl7
      have hx67 : Below wr.heap.size wr w7 := hx6.trans (hx7.mono hx6.size)
      have v7 := v6.below hx7 v6.lt
      have hb7 := hb5.trans (hx67.mono hb5.size)
      have hz7 := hx67.size
      clear hl7 d0 d1 d2 d3 f1 v6 hs6 hG6 hlt6
      obtain ⟨d0, d1, d2, d3, f1⟩ := v7.cells4
      have hlt7 := v7.lt
      rcases HST.out with ⟨r1, r2⟩ | ⟨rfl, hd1, hd2⟩ | ⟨rfl, hd1, hl0, hd', hc'⟩ | ⟨rfl, hd1, hl0, hl', hd2, hc'⟩
      · have t1 : (r == 30) = false := by rw [beq_eq_false_iff_ne]; exact r1
        have t2 : (r == 0) = false := by rw [beq_eq_false_iff_ne]; exact r2
        go_wp2_with fail
        go_round
        case rel => exact ⟨j + 1, dk, by omega, by go_num, rfl, HSTAY.out _ (hx67.trans ((bel1 w7 _ _).mono hz7))⟩
        case measure => simp [intOf]; omega
      · change down = true at hd1
        change down' = false at hd2
        subst hd1 hd2
        obtain rfl := HDD.out rfl
        go_wp2_with fail
        go_round
        case rel => exact ⟨j + 1, _, by omega, by go_num, rfl, HSTAY.out _ (hx67.trans ((bel1 w7 _ _).mono hz7))⟩
        case measure => simp [intOf]; omega
      · change down = false at hd1
        change left = 0 at hl0
        change (⟨fs', cap', left', down'⟩ : Dk) = ⟨fs, cap, left, true⟩ at hd'
        simp only [Dk.mk.injEq] at hd'
        obtain ⟨rfl, rfl, rfl, rfl⟩ := hd'
        subst hd1
        obtain rfl : dk = N := by have := HLE.out; omega
        clear hl0
        go_wp2_with fail
        go_round
        case rel => exact ⟨j + 1, _, by omega, by go_num, rfl, (LeftRel.step HL7.out hs7 v7 disk_noText hc' HLE.out (Nat.le_refl _) (fun _ => rfl) hgw hb7).alloc _⟩
        case measure => simp [intOf]; omega
      · change down = false at hd1
        change 0 < left at hl0
        change left' = left - 1 at hl'
        change down' = false at hd2
        have hp1 : dk + 1 ≤ N := by have := HLE.out; omega
        have hp2 : left' = (N : Int) - ((dk + 1 : Nat) : Int) := by have := HLE.out; omega
        have HP1 := Lib.hid hp1
        have HP2 := Lib.hid hp2
        have t4 : dk < N := hp1
        clear hl' hp1 hp2 hl0
        subst hd1 hd2
        have t3 : decide ((N : Int) ≤ (dk : Int)) = false := bool_dec _ (by omega)
        go_wp2_with fail
        go_round
        case rel => exact ⟨j + 1, dk + 1, by omega, by go_num, by go_num, (LeftRel.step HL7.out hs7 v7 disk_noText hc' HP2.out HP1.out (fun h => by cases h) hgw hb7).alloc _⟩
        case measure => simp [intOf]; omega
    · have y1 : IntKind.i64.wrap ((N : Int) - (dk : Int)) = left := by rw [IntWalk.i64_in _ (by omega)]; exact HLE.out.symm
      have y2 : (left == left) = true := by simp
      go_wp2_with fail
      refine (crash_valid A5 none m5 c5 wr.heap.size 0 0 fs [] cap left down _ HL5.out hs5 (Nat.le_refl _) HC5.out rfl (Seen.nil _ _ _) (fun x hx => by cases hx)).mono ?_
      rintro e w8 ⟨A8, m8, c8, rfl, hl8, hs8, hm8, hx8⟩
      have v8 := v5.below hx8 v5.lt
      have hb8 := hb5.trans (hx8.mono hb5.size)
      have hb9 := hb8.alloc hb8.size (.cells #[.slice A8 m8 c8, .int .i64 cap, .int .i64 (-1), .bool false] 24)
      clear hl8 hs8 d0 d1 d2 d3 f1
      obtain ⟨d0, d1, d2, d3, f1⟩ := v8.cells4
      have hlt8 := v8.lt
      cases down
      all_goals
        go_wp2_with fail
        refine (wakes_any _ (HG.out.next hb9)).mono ?_
        rintro e w10 ⟨rfl, hx10⟩
        have hb10 := hb9.trans (hx10.mono hb9.size)
        go_wp2
        go_ret
        exact ⟨rfl, hb10⟩

end Go.Proofs.YtbglpmjfajmkdaaDoor
