/-
  Contracts of fields' number: what it returns and what it does to memory. Conditions: those that each theorem names.
  Contracts of fields' Number: what it returns and what it does to memory. Conditions: those that each theorem names.
  Contracts of fields' Text, the reader's: what it returns and what it does to memory. Conditions: those that each theorem names.
-/
import Derived.Test.YtplpagnnlggfgaaDoorFldRead
import Derived.Deep.DrawnRows
import Derived.Conc.MuLone
namespace Go.Proofs.YtplpagnnlggfgaaDoor
open Go.RowKit
attribute [local go_sem ↓] Go.wp_at_zero Go.wp_at_succ

theorem _root_.Go.RowKit.Below.drewN' {B : Nat} {a w : World} (h : Below B a w) (n : Nat) : Below B a (w.drewN n) := ⟨h.os, h.tape, h.output, h.size, h.block⟩
/-- A number is told by its first six bytes. -/
theorem decGo_take : ∀ (l : List UInt8) (i a : Nat), i ≤ 6 → VP.decGo i a (l.take (6 - i)) = VP.decGo i a l := by
  intro l
  induction l with
  | nil => intro i a _; simp
  | cons c r ih =>
    intro i a hi
    by_cases h6 : i = 6
    · subst h6
      rw [VP.decGo_far (Nat.le_refl _), VP.decGo_far (Nat.le_refl _)]
    · rw [show 6 - i = (6 - (i + 1)) + 1 by omega, List.take_succ_cons]
      by_cases hm : 128 ≤ c.toNat
      · rw [VP.decGo_more (by omega) hm, VP.decGo_more (by omega) hm, ih _ _ (by omega)]
      · by_cases hb : 1099511627776 < a + c.toNat % 128 * 128 ^ i ∨ (c.toNat = 0 ∧ 0 < i)
        · rw [VP.decGo_bad (by omega) (by omega) hb, VP.decGo_bad (by omega) (by omega) hb]
        · rw [VP.decGo_last (by omega) (by omega) hb, VP.decGo_last (by omega) (by omega) hb]
theorem dec_take (l : List UInt8) (k : Nat) (hk : 6 ≤ k) : VP.dec (l.take k) = VP.dec l := by
  have h1 := decGo_take l 0 0 (by omega)
  have h2 := decGo_take (l.take k) 0 0 (by omega)
  rw [List.take_take, Nat.min_eq_left (by omega)] at h2
  unfold VP.dec
  rw [← h2, ← h1]

theorem dec_cut {s : ByteArray} {p hi : Nat} (hh : (p + 6 ≤ s.size → hi = p + 6) ∧ (s.size < p + 6 → hi = s.size)) : VP.dec (bytesOf (s.extract p hi)) = VP.dec ((bytesOf s).drop p) := by
  rw [bytesOf_extract]
  by_cases h : p + 6 ≤ s.size
  · rw [hh.1 h, show p + 6 - p = 6 by omega]; exact dec_take _ _ (Nat.le_refl _)
  · rw [hh.2 (by omega), List.take_of_length_le (by rw [List.length_drop, bytesOf_length]; omega)]

theorem enc_most : (VP.enc 1099511627776).length = 6 := by
  rw [VP.enc_great (by decide), VP.enc_great (by decide), VP.enc_great (by decide), VP.enc_great (by decide), VP.enc_great (by decide), VP.enc_small (by decide)]; rfl
theorem len_most (w : World) : Calls Tryd.prog 85 #[.int .i64 1099511627776] w fun e w' => e = .returned (.int .i64 6) ∧ w' = w := by
  have h := len_yes 1099511627776 w (Nat.le_refl _)
  rw [enc_most] at h
  exact h.mono fun _ _ ⟨h1, h2⟩ => ⟨h1, h2.symm⟩

/-- '[]byte(s)', as the walk asks for it. -/
theorem conv_eq (s : ByteArray) (W : World) : (convert 9 27 (.string s)).run Tryd.prog W = .ok (.slice (some ⟨W.heap.size, 0, none⟩) s.size (grownCap W s.size 0 5)) (Lib.bytesWorld W 5 s) :=
  Lib.run_convert_string_bytes W _ _ _ s Tryd.underlying9 Tryd.underlying27 Tryd.underlying5
theorem conv_seen (W : World) (s : ByteArray) (e : TypeId) : Seen (Lib.bytesWorld W e s) (Lib.bytesWorld W e s).heap.size (some ⟨W.heap.size, 0, none⟩) (cells (bytesOf s)) := fun _ =>
  ⟨W.heap.size, 0, rfl, by rw [Lib.bytesWorld_size]; omega, fun j u hu => by
    obtain ⟨hj, rfl⟩ := cells_get hu
    have hj' : j < s.size := by rw [← bytesOf_length]; exact hj
    rw [Nat.zero_add, Lib.bytesWorld_cell W e s j hj']
    unfold bytesOf at hj ⊢
    simp [List.getD, List.getElem?_eq_getElem hj]⟩
theorem conv_below (W : World) (s : ByteArray) (e : TypeId) : Below W.heap.size W (Lib.bytesWorld W e s) := ⟨rfl, rfl, rfl, by rw [Lib.bytesWorld_size]; omega, fun k hk => Lib.bytesWorld_at_old W e s k hk⟩

set_option maxRecDepth 100000 in
set_option maxHeartbeats 1000000 in
theorem number_yes (g : Nat) (s : ByteArray) (p n k bh : Nat) (bad : Bool) (lo hi : Int) (w : World) (hr : Rd 92 w g s p bad) (hp : p < s.size) (hx : s.size ≤ 1000000) (hd : VP.dec ((bytesOf s).drop p) = some (n, k)) (hlo : lo ≤ n) (hhi : (n : Int) ≤ hi) (hbh : bh = p + k) :
    Calls Tryd.prog 94 #[.pointer (some ⟨g, 0, none⟩), .int .i64 lo, .int .i64 hi] w fun e w' => e = .returned (.tuple #[.int .i64 (n : Int), .int .i64 (bh : Int)]) ∧ Below w.heap.size w w' := by
  obtain ⟨c0, c1, c2⟩ := Rd.cells hr
  obtain ⟨m, hm, HW⟩ : ∃ m : Nat, (p ≤ m ∧ m ≤ p + 6 ∧ m ≤ s.size) ∧ Hid ((p + 6 ≤ s.size → m = p + 6) ∧ (s.size < p + 6 → m = s.size)) := by
    by_cases h : p + 6 ≤ s.size
    · exact ⟨p + 6, by omega, fun _ => rfl, fun h' => by omega⟩
    · exact ⟨s.size, by omega, fun h' => by omega, fun _ => rfl⟩
  obtain ⟨hm1, hm2, hm3⟩ := hm
  have HD : Hid (VP.dec (bytesOf (s.extract p m)) = some (n, k)) := by show _ = _; rw [dec_cut HW.out]; exact hd
  have hk6 := (VP.dec_only hd).2.2.2.1
  have HBH := Lib.hid hbh
  clear hd hbh
  go_enter Tryd.func94, Tryd.ntmps94
  go_upto_region 2 with fail
  go_cut [8] (fun s8 wx => s8 = .int .i64 (m : Int) ∧ ∃ q, wx = w.drewN q)
  case first =>
    go_quiet ((go_at_call 85; exact Calls.quiet_of_same (len_most _)))
    go_wp2_with fail
    all_goals go_meet
    all_goals (refine ⟨?_, _, rfl⟩; have := HW.out; congr 1; omega)
  case rest =>
    obtain ⟨rfl, q, rfl⟩ := hcut
    have hcv := conv_eq (s.extract p m)
    have hg : g < w.heap.size := Var.lt hr
    have hsz := extract_size s p m hm1 hm3
    obtain ⟨ls, hls⟩ : ∃ ls, ls = (s.extract p m).size := ⟨_, rfl⟩
    rw [← hls] at hcv hsz
    have HLS : Hid (ls = (bytesOf (s.extract p m)).length) := by show _ = _; rw [bytesOf_length]; exact hls
    have hls6 : ls ≤ 6 := by omega
    clear hls hsz
    go_wp2_with fail
    go_region_with ((go_at_call 98; refine (get_yes _ _ (bytesOf (s.extract p m)) ls 0 n k _ HLS.out ?_ (by omega) ?_ (by omega) k HD.out (by omega)).mono ?_; (exact conv_seen _ _ _); (exact grownCap_ge _ _ _ _); rintro e w2 ⟨rfl, hb⟩))
    all_goals
      have hb2 : Below w.heap.size w w2 := (((Below.refl _ _).drewN' _).trans (conv_below _ _ _)).trans (hb.mono (by rw [Lib.bytesWorld_size]; simp))
      have d1 : w2.cell? ⟨g, 1, none⟩ = some (.int .i64 (p : Int)) := (hb2.cell (p := ⟨g, 1, none⟩) hg).trans c1
      clear hb hcv c0 c1 c2 hr
      go_wp2_with fail
      refine (must_yes _).mono ?_
      rintro e w3 ⟨rfl, rfl⟩
      go_wp2_with fail
      have hsum : IntKind.i64.wrap ((p : Int) + (k : Int)) = (bh : Int) := by have := HBH.out; rw [IntWalk.i64_in _ (by omega)]; omega
      go_quiet (fail)
      clear hsum
      go_wp2
      go_ret2
      exact ⟨rfl, below_drewN hb2 _⟩

set_option maxRecDepth 100000 in
set_option maxHeartbeats 1000000 in
theorem number_out (g : Nat) (s : ByteArray) (p n k : Nat) (bad : Bool) (lo hi : Int) (w : World) (hr : Rd 92 w g s p bad) (hp : p < s.size) (hx : s.size ≤ 1000000) (hd : VP.dec ((bytesOf s).drop p) = some (n, k)) (hout : (n : Int) < lo ∨ hi < n) :
    Calls Tryd.prog 94 #[.pointer (some ⟨g, 0, none⟩), .int .i64 lo, .int .i64 hi] w fun e w' => e = .panicked [{ v := wrongV, recovered := false }] ∧ Below w.heap.size w w' := by
  obtain ⟨c0, c1, c2⟩ := Rd.cells hr
  obtain ⟨m, hm, HW⟩ : ∃ m : Nat, (p ≤ m ∧ m ≤ p + 6 ∧ m ≤ s.size) ∧ Hid ((p + 6 ≤ s.size → m = p + 6) ∧ (s.size < p + 6 → m = s.size)) := by
    by_cases h : p + 6 ≤ s.size
    · exact ⟨p + 6, by omega, fun _ => rfl, fun h' => by omega⟩
    · exact ⟨s.size, by omega, fun h' => by omega, fun _ => rfl⟩
  obtain ⟨hm1, hm2, hm3⟩ := hm
  have HD : Hid (VP.dec (bytesOf (s.extract p m)) = some (n, k)) := by show _ = _; rw [dec_cut HW.out]; exact hd
  have hk6 := (VP.dec_only hd).2.2.2.1
  clear hd
  go_enter Tryd.func94, Tryd.ntmps94
  go_upto_region 2 with fail
  go_cut [8] (fun s8 wx => s8 = .int .i64 (m : Int) ∧ ∃ q, wx = w.drewN q)
  case first =>
    go_quiet ((go_at_call 85; exact Calls.quiet_of_same (len_most _)))
    go_wp2_with fail
    all_goals go_meet
    all_goals (refine ⟨?_, _, rfl⟩; have := HW.out; congr 1; omega)
  case rest =>
    obtain ⟨rfl, q, rfl⟩ := hcut
    have hcv := conv_eq (s.extract p m)
    have hg : g < w.heap.size := Var.lt hr
    have hsz := extract_size s p m hm1 hm3
    obtain ⟨ls, hls⟩ : ∃ ls, ls = (s.extract p m).size := ⟨_, rfl⟩
    rw [← hls] at hcv hsz
    have HLS : Hid (ls = (bytesOf (s.extract p m)).length) := by show _ = _; rw [bytesOf_length]; exact hls
    have hls6 : ls ≤ 6 := by omega
    clear hls hsz
    go_wp2_with fail
    go_region_with ((go_at_call 98; refine (get_yes _ _ (bytesOf (s.extract p m)) ls 0 n k _ HLS.out ?_ (by omega) ?_ (by omega) k HD.out (by omega)).mono ?_; (exact conv_seen _ _ _); (exact grownCap_ge _ _ _ _); rintro e w2 ⟨rfl, hb⟩))
    all_goals
      have hb2 : Below w.heap.size w w2 := (((Below.refl _ _).drewN' _).trans (conv_below _ _ _)).trans (hb.mono (by rw [Lib.bytesWorld_size]; simp))
      have d1 : w2.cell? ⟨g, 1, none⟩ = some (.int .i64 (p : Int)) := (hb2.cell (p := ⟨g, 1, none⟩) hg).trans c1
      clear hb hcv c0 c1 c2 hr
      rcases hout with hlo | hhi
      · go_wp2_with fail
        refine (must_no _).mono ?_
        rintro e w3 ⟨rfl, rfl⟩
        go_wp2
        exact ⟨rfl, rfl, hb2⟩
      · by_cases hlo : lo ≤ n
        · have hdd : decide ((n : Int) ≤ hi) = false := by simp; omega
          go_wp2_with fail
          refine (must_no _).mono ?_
          rintro e w3 ⟨rfl, rfl⟩
          go_wp2
          exact ⟨rfl, rfl, hb2⟩
        · go_wp2_with fail
          refine (must_no _).mono ?_
          rintro e w3 ⟨rfl, rfl⟩
          go_wp2
          exact ⟨rfl, rfl, hb2⟩

set_option maxRecDepth 100000 in
set_option maxHeartbeats 1000000 in
theorem number_none (g : Nat) (s : ByteArray) (p : Nat) (bad : Bool) (lo hi : Int) (w : World) (hr : Rd 92 w g s p bad) (hp : p < s.size) (hx : s.size ≤ 1000000) (hd : VP.dec ((bytesOf s).drop p) = none) :
    Calls Tryd.prog 94 #[.pointer (some ⟨g, 0, none⟩), .int .i64 lo, .int .i64 hi] w fun e w' => e = .panicked [{ v := wrongV, recovered := false }] ∧ Below w.heap.size w w' := by
  obtain ⟨c0, c1, c2⟩ := Rd.cells hr
  obtain ⟨m, hm, HW⟩ : ∃ m : Nat, (p ≤ m ∧ m ≤ p + 6 ∧ m ≤ s.size) ∧ Hid ((p + 6 ≤ s.size → m = p + 6) ∧ (s.size < p + 6 → m = s.size)) := by
    by_cases h : p + 6 ≤ s.size
    · exact ⟨p + 6, by omega, fun _ => rfl, fun h' => by omega⟩
    · exact ⟨s.size, by omega, fun h' => by omega, fun _ => rfl⟩
  obtain ⟨hm1, hm2, hm3⟩ := hm
  have HD : Hid (VP.dec (bytesOf (s.extract p m)) = none) := by show _ = _; rw [dec_cut HW.out]; exact hd
  clear hd
  go_enter Tryd.func94, Tryd.ntmps94
  go_upto_region 2 with fail
  go_cut [8] (fun s8 wx => s8 = .int .i64 (m : Int) ∧ ∃ q, wx = w.drewN q)
  case first =>
    go_quiet ((go_at_call 85; exact Calls.quiet_of_same (len_most _)))
    go_wp2_with fail
    all_goals go_meet
    all_goals (refine ⟨?_, _, rfl⟩; have := HW.out; congr 1; omega)
  case rest =>
    obtain ⟨rfl, q, rfl⟩ := hcut
    have hcv := conv_eq (s.extract p m)
    have hg : g < w.heap.size := Var.lt hr
    have hsz := extract_size s p m hm1 hm3
    obtain ⟨ls, hls⟩ : ∃ ls, ls = (s.extract p m).size := ⟨_, rfl⟩
    rw [← hls] at hcv hsz
    have HLS : Hid (ls = (bytesOf (s.extract p m)).length) := by show _ = _; rw [bytesOf_length]; exact hls
    have hls6 : ls ≤ 6 := by omega
    clear hls hsz
    go_wp2_with fail
    go_region_with ((go_at_call 98; refine (get_not _ _ (bytesOf (s.extract p m)) ls 0 _ HLS.out ?_ (by omega) ?_ (.inr (.inr (by simpa using HD.out)))).mono ?_; (exact conv_seen _ _ _); (exact grownCap_ge _ _ _ _); rintro e w2 ⟨rfl, hb⟩))
    all_goals
      have hb2 : Below w.heap.size w w2 := (((Below.refl _ _).drewN' _).trans (conv_below _ _ _)).trans (hb.mono (by rw [Lib.bytesWorld_size]; simp))
      have d1 : w2.cell? ⟨g, 1, none⟩ = some (.int .i64 (p : Int)) := (hb2.cell (p := ⟨g, 1, none⟩) hg).trans c1
      clear hb hcv c0 c1 c2 hr
      go_wp2_with fail
      refine (must_no _).mono ?_
      rintro e w3 ⟨rfl, rfl⟩
      go_wp2
      exact ⟨rfl, rfl, hb2⟩

end Go.Proofs.YtplpagnnlggfgaaDoor

namespace Go.Proofs.YtplpagnnlggfgaaDoor
open Go.RowKit

section
variable (br bl bm bn g : Nat) (s : ByteArray) (p : Nat) (lo hi v0 : Int) (w : World)
  (hvr : Var w br 60 #[.pointer (some ⟨g, 0, none⟩)]) (hvl : Var w bl 3 #[.int .i64 lo]) (hvm : Var w bm 3 #[.int .i64 hi]) (hvn : Var w bn 3 #[.int .i64 v0])
  (hr : Rd 92 w g s p false) (hp : p < s.size) (hx : s.size ≤ 1000000) (hng : g ≠ bn)
include hvr hvl hvm hvn hr hp hx hng

set_option maxRecDepth 100000 in
theorem number1_ok (n k bh : Nat) (hd : VP.dec ((bytesOf s).drop p) = some (n, k)) (hlo : lo ≤ n) (hhi : (n : Int) ≤ hi) (hbh : bh = p + k) :
    Calls Tryd.prog 93 #[.pointer (some ⟨br, 0, none⟩), .pointer (some ⟨bl, 0, none⟩), .pointer (some ⟨bm, 0, none⟩), .pointer (some ⟨bn, 0, none⟩)] w fun e w' =>
      e = .returned (.int .i64 (bh : Int)) ∧ Rd 92 w' g s p false ∧ Var w' bn 3 #[.int .i64 (n : Int)] ∧ Kept [bn] w w' := by
  have c1 : w.cell? ⟨br, 0, none⟩ = some (.pointer (some ⟨g, 0, none⟩)) := hvr.cell 0 rfl
  have c2 : w.cell? ⟨bl, 0, none⟩ = some (.int .i64 lo) := hvl.cell 0 rfl
  have c3 : w.cell? ⟨bm, 0, none⟩ = some (.int .i64 hi) := hvm.cell 0 rfl
  have HD := Lib.hid hd
  have HBH := Lib.hid hbh
  clear hd hbh
  go_enter Tryd.func93, Tryd.ntmps93
  go_wp2_with fail
  refine (number_yes g s p n k bh false lo hi _ hr hp hx HD.out hlo hhi HBH.out).mono ?_
  rintro e w1 ⟨rfl, hb⟩
  have hr1 : Rd 92 w1 g s p false := Var.below hr hb (Var.lt hr)
  have hv1 := hvn.below hb hvn.lt
  have d1 : w1.cell? ⟨bn, 0, none⟩ = some (.int .i64 v0) := hv1.cell 0 rfl
  have d2 := hv1.free 0
  have hr2 : Rd 92 (w1.setCell ⟨bn, 0, none⟩ (.int .i64 (n : Int))) g s p false := Var.other hr1 0 _ hng
  have hv2 : Var (w1.setCell ⟨bn, 0, none⟩ (.int .i64 (n : Int))) bn 3 #[.int .i64 (n : Int)] := hv1.set 0 _
  have hk2 : Kept [bn] w (w1.setCell ⟨bn, 0, none⟩ (.int .i64 (n : Int))) := (Kept.of_below hb).setCell (.inl (by simp)) _
  clear hr1 hv1
  go_wp2
  go_ret
  exact ⟨rfl, hr2, hv2, hk2⟩

omit hvn hng in
set_option maxRecDepth 100000 in
theorem number1_no (hd : VP.dec ((bytesOf s).drop p) = none ∨ ∃ n k, VP.dec ((bytesOf s).drop p) = some (n, k) ∧ ((n : Int) < lo ∨ hi < n)) :
    Calls Tryd.prog 93 #[.pointer (some ⟨br, 0, none⟩), .pointer (some ⟨bl, 0, none⟩), .pointer (some ⟨bm, 0, none⟩), .pointer (some ⟨bn, 0, none⟩)] w fun e w' =>
      e = .panicked [{ v := wrongV, recovered := false }] ∧ Below w.heap.size w w' := by
  have c1 : w.cell? ⟨br, 0, none⟩ = some (.pointer (some ⟨g, 0, none⟩)) := hvr.cell 0 rfl
  have c2 : w.cell? ⟨bl, 0, none⟩ = some (.int .i64 lo) := hvl.cell 0 rfl
  have c3 : w.cell? ⟨bm, 0, none⟩ = some (.int .i64 hi) := hvm.cell 0 rfl
  rcases hd with hd | ⟨n, k, hd, hout⟩
  · have HD := Lib.hid hd
    clear hd
    go_enter Tryd.func93, Tryd.ntmps93
    go_wp2_with fail
    refine (number_none g s p false lo hi _ hr hp hx HD.out).mono ?_
    rintro e w1 ⟨rfl, hb⟩
    go_wp2
    exact ⟨rfl, rfl, hb⟩
  · have HD := Lib.hid hd
    have HO := Lib.hid hout
    clear hd hout
    go_enter Tryd.func93, Tryd.ntmps93
    go_wp2_with fail
    refine (number_out g s p n k false lo hi _ hr hp hx HD.out HO.out).mono ?_
    rintro e w1 ⟨rfl, hb⟩
    go_wp2
    exact ⟨rfl, rfl, hb⟩
end

theorem enters (F : FuncId) {fn : Func} {c : Code} (hf : Tryd.prog.funcs[F]? = some fn) (hname : (fn.name == "runtime.NumGoroutine") = false) (hb : fn.body = some c) (caps : Array Value) : ∀ W, (callFunc F caps).run Tryd.prog W = .ok (.enter F caps) W :=
  fun W => MuLone.run_callFunc_enter hf hname hb caps W

/-- What Number reads: the number, the place behind, whether the reader is stopped. -/
def NumIs (s : ByteArray) (p : Nat) (bad : Bool) (lo hi : Int) (v : Int) (p' : Nat) (bad' : Bool) : Prop :=
  (bad = false ∧ ∃ n k : Nat, VP.dec ((bytesOf s).drop p) = some (n, k) ∧ lo ≤ n ∧ (n : Int) ≤ hi ∧ v = n ∧ p' = p + k ∧ bad' = false) ∨
  ((bad = true ∨ VP.dec ((bytesOf s).drop p) = none ∨ ∃ n k : Nat, VP.dec ((bytesOf s).drop p) = some (n, k) ∧ ((n : Int) < lo ∨ hi < n)) ∧ v = 0 ∧ p' = p ∧ bad' = true)
theorem numIs_of (s : ByteArray) (p : Nat) (bad : Bool) (lo hi : Int) : ∃ v p' bad', NumIs s p bad lo hi v p' bad' := by
  by_cases hb : bad = true
  · exact ⟨0, p, true, .inr ⟨.inl hb, rfl, rfl, rfl⟩⟩
  · rcases hd : VP.dec ((bytesOf s).drop p) with _ | ⟨n, k⟩
    · exact ⟨0, p, true, .inr ⟨.inr (.inl hd), rfl, rfl, rfl⟩⟩
    · by_cases h : lo ≤ n ∧ (n : Int) ≤ hi
      · exact ⟨n, p + k, false, .inl ⟨by simpa using hb, n, k, hd, h.1, h.2, rfl, rfl, rfl⟩⟩
      · exact ⟨0, p, true, .inr ⟨.inr (.inr ⟨n, k, hd, by omega⟩), rfl, rfl, rfl⟩⟩
theorem NumIs.le {s : ByteArray} {p : Nat} {bad : Bool} {lo hi : Int} {v : Int} {p' : Nat} {bad' : Bool} (h : NumIs s p bad lo hi v p' bad') (hp : p ≤ s.size) : p' ≤ s.size := by
  rcases h with ⟨_, n, k, hd, _, _, _, rfl, _⟩ | ⟨_, _, rfl, _⟩
  · have := (VP.dec_only hd).2.2.1
    rw [List.length_drop, bytesOf_length] at this
    omega
  · exact hp

/-- The variables that Number makes. -/
def numWorld (g : Nat) (lo hi : Int) (w : World) : World := (((w.alloc (.cells #[.pointer (some ⟨g, 0, none⟩)] 60)).alloc (.cells #[.int .i64 lo] 3)).alloc (.cells #[.int .i64 hi] 3)).alloc (.cells #[.int .i64 0] 3)
theorem numWorld_size (g : Nat) (lo hi : Int) (w : World) : (numWorld g lo hi w).heap.size = w.heap.size + 4 := by simp [numWorld]
theorem numWorld_below (g : Nat) (lo hi : Int) (w : World) : Below w.heap.size w (numWorld g lo hi w) :=
  ((((Below.refl _ _).alloc (Nat.le_refl _) _).alloc (by simp) _).alloc (by simp; omega) _).alloc (by simp; omega) _
theorem numWorld_vars (g : Nat) (lo hi : Int) (w : World) : Var (numWorld g lo hi w) w.heap.size 60 #[.pointer (some ⟨g, 0, none⟩)] ∧ Var (numWorld g lo hi w) (w.heap.size + 1) 3 #[.int .i64 lo] ∧
    Var (numWorld g lo hi w) (w.heap.size + 2) 3 #[.int .i64 hi] ∧ Var (numWorld g lo hi w) (w.heap.size + 3) 3 #[.int .i64 0] := by
  have e1 : (w.alloc (.cells #[.pointer (some ⟨g, 0, none⟩)] 60)).heap.size = w.heap.size + 1 := by simp
  have e2 : ((w.alloc (.cells #[.pointer (some ⟨g, 0, none⟩)] 60)).alloc (.cells #[.int .i64 lo] 3)).heap.size = w.heap.size + 2 := by simp
  have e3 : (((w.alloc (.cells #[.pointer (some ⟨g, 0, none⟩)] 60)).alloc (.cells #[.int .i64 lo] 3)).alloc (.cells #[.int .i64 hi] 3)).heap.size = w.heap.size + 3 := by simp
  refine ⟨(((Var.new _ _ _).alloc _).alloc _).alloc _, ?_, ?_, ?_⟩
  · rw [← e1]; exact ((Var.new _ _ _).alloc _).alloc _
  · rw [← e2]; exact (Var.new _ _ _).alloc _
  · rw [← e3]; exact Var.new _ _ _

set_option maxRecDepth 100000 in
set_option maxHeartbeats 1000000 in
theorem number_all (g : Nat) (s : ByteArray) (p : Nat) (bad : Bool) (lo hi v : Int) (p' : Nat) (bad' : Bool) (w : World) (h : NumIs s p bad lo hi v p' bad') (hr : Rd 92 w g s p bad) (hx : s.size ≤ 1000000) (hp : p ≤ s.size) :
    Calls Tryd.prog 90 #[.pointer (some ⟨g, 0, none⟩), .int .i64 lo, .int .i64 hi] w fun e w' => e = .returned (.int .i64 v) ∧ Rd 92 w' g s p' bad' ∧ Kept [g] w w' := by
  have hmf := mk_any
  have hb0 := numWorld_below g lo hi w
  have hr0 : Rd 92 (numWorld g lo hi w) g s p bad := Var.below hr hb0 (Var.lt hr)
  obtain ⟨v1, v2, v3, v4⟩ := numWorld_vars g lo hi w
  have hg := Var.lt hr
  have hcf := enters 93 Tryd.func93 (by kernel_rfl) rfl #[.pointer (some ⟨w.heap.size, 0, none⟩), .pointer (some ⟨w.heap.size + 1, 0, none⟩), .pointer (some ⟨w.heap.size + 2, 0, none⟩), .pointer (some ⟨w.heap.size + 3, 0, none⟩)]
  have H := Lib.hid h
  have HCF := Lib.hid hcf
  have hsz := numWorld_size g lo hi w
  have HSZ := Lib.hid hsz
  clear h hcf hsz
  have hall : Calls Tryd.prog 92 #[.pointer (some ⟨g, 0, none⟩), .func (.func 93) #[] #[.pointer (some ⟨w.heap.size, 0, none⟩), .pointer (some ⟨w.heap.size + 1, 0, none⟩), .pointer (some ⟨w.heap.size + 2, 0, none⟩), .pointer (some ⟨w.heap.size + 3, 0, none⟩)]] (numWorld g lo hi w)
      fun e w' => e = .returned (.tuple #[]) ∧ Rd 92 w' g s p' bad' ∧ w'.cell? ⟨w.heap.size + 3, 0, none⟩ = some (.int .i64 v) ∧ Kept [g] w w' := by
    have stop : ∀ w', Kept [g] (numWorld g lo hi w) w' → w'.cell? ⟨w.heap.size + 3, 0, none⟩ = some (.int .i64 0) ∧ Kept [g] w w' := fun w' hk =>
      ⟨(v4.kept hk (by simp; omega)).cell 0 rfl, (Kept.of_below hb0).trans hk⟩
    rcases H.out with ⟨rfl, n, k, hd, hlo, hhi, rfl, rfl, rfl⟩ | ⟨hc, rfl, rfl, rfl⟩
    · have hlt : p < s.size := by
        have := (VP.dec_only hd).2.2.1
        have h0 := (VP.dec_only hd).2.1
        rw [List.length_drop, bytesOf_length] at this
        omega
      refine (read_ok _ _ g s p (p + k) (w.heap.size + 3) 3 (.int .i64 (n : Int)) _ hr0 hlt (by omega) (by rw [HSZ.out]; simp) HCF.out ?_).mono ?_
      · intro W hb
        have hl := HSZ.out
        exact number1_ok _ _ _ _ g s p lo hi 0 W (v1.below hb (by omega)) (v2.below hb (by omega)) (v3.below hb (by omega)) (v4.below hb (by omega)) (Var.below hr0 hb (Var.lt hr0)) hlt hx (by omega) n k _ hd hlo hhi rfl
      · rintro e w' ⟨rfl, h1, h2, h3⟩
        exact ⟨rfl, h1, h2.cell 0 rfl, (Kept.of_below hb0).then h3 (by intro x hx; simp at hx; rcases hx with rfl | rfl; exact .inl (by simp); exact .inr (by omega))⟩
    · by_cases hbad : bad = true
      · subst hbad
        refine (read_bad _ g s p' _ hr0).mono ?_
        rintro e w' ⟨rfl, h1, h2⟩
        exact ⟨rfl, h1, stop w' h2⟩
      · have hbf : bad = false := by simpa using hbad
        subst hbf
        by_cases hlt : p' < s.size
        · refine (read_no _ _ g s p' _ hr0 hlt HCF.out ?_).mono ?_
          · intro W hb
            have hl := HSZ.out
            refine number1_no _ _ _ _ g s p' lo hi W (v1.below hb (by omega)) (v2.below hb (by omega)) (v3.below hb (by omega)) (Var.below hr0 hb (Var.lt hr0)) hlt hx ?_
            rcases hc with hc | hc
            · cases hc
            · exact hc
          · rintro e w' ⟨rfl, h1, h2⟩
            exact ⟨rfl, h1, stop w' h2⟩
        · refine (read_end _ g s p' _ hr0 (by omega)).mono ?_
          rintro e w' ⟨rfl, h1, h2⟩
          exact ⟨rfl, h1, stop w' h2⟩
  have HALL := Lib.hid hall
  clear hall v1 v2 v3 v4 hr0 hb0
  go_enter Tryd.func90, Tryd.ntmps90
  go_wp2_with fail
  refine (show Calls _ _ _ (numWorld g lo hi w) _ from HALL.out).mono ?_
  rintro e w1 ⟨rfl, h1, h2, h3⟩
  go_wp2
  go_ret
  exact ⟨rfl, h1, h3⟩

set_option maxRecDepth 100000 in
theorem number_nil (lo hi : Int) (w : World) : Calls Tryd.prog 90 #[.pointer none, .int .i64 lo, .int .i64 hi] w fun e w' => e = .returned (.int .i64 0) ∧ Below w.heap.size w w' := by
  have hmf := mk_any
  go_enter Tryd.func90, Tryd.ntmps90
  go_wp2_with fail
  refine (read_nil _ _).mono ?_
  rintro e w1 ⟨rfl, hb⟩
  have hb1 : Below w.heap.size w w1 := (((((Below.refl _ _).alloc (Nat.le_refl _) _).alloc (by simp) _).alloc (by simp; omega) _).alloc (by simp; omega) _).trans (hb.mono (by simp; omega))
  have hc : w1.cell? ⟨w.heap.size + 3, 0, none⟩ = some (.int .i64 0) := by
    rw [hb.cell (p := ⟨w.heap.size + 3, 0, none⟩) (by simp)]
    go_simp
  go_wp2
  go_ret
  exact ⟨rfl, hb1⟩

end Go.Proofs.YtplpagnnlggfgaaDoor

namespace Go.Proofs.YtplpagnnlggfgaaDoor
open Go.RowKit
attribute [local go_sem ↓] Go.wp_at_zero Go.wp_at_succ

/-- 'b[l:h:h]' of bytes. -/
theorem cut_lhm {P : Program} {w : World} {B : Nat} {A : Option Addr} {bs : List UInt8} (hs : Seen w B A (cells bs)) (t e : TypeId) (ht : P.underlying t = some (.slice e)) (hz : ∀ w, (Go.sizeOf e).run P w = .ok 1 w) (lb c l h : Nat) (hlb : lb = bs.length) (hl : l ≤ h) (hh : h ≤ lb) (hc : lb ≤ c) :
    ∃ D, (∀ W, (Instr.slice t (.slice A lb c) (some (.int .i64 (l : Int))) (some (.int .i64 (h : Int))) (some (.int .i64 (h : Int)))).run P W = .ok (.slice D (h - l) (h - l)) W) ∧ Seen w B D (cells ((bs.drop l).take (h - l))) := by
  refine ⟨if h = l then A else A.map (·.add (l * 1)), fun W => ?_, ?_⟩
  · have ht' : P.underlying t = some (.slice (P.elem t)) := by simp [Program.elem, ht]
    have he : P.elem t = e := by simp [Program.elem, ht]
    rw [run_slice_lhm W t _ _ _ ht' .i64 .i64 .i64 _ _ _ (by omega) (by omega) (by omega) (by omega), he, hz]
    simp [Result.andThen, sliced]
  · by_cases hE : h = l
    · rw [hE, Nat.sub_self, List.take_zero]; exact Seen.nil _ _ _
    · have := hs.cut (l := l) (h := h) (c := c) hl (by rw [cells_length]; omega) (by rw [cells_length]; omega)
      rw [if_neg (by omega), ← cells_drop, ← cells_take] at this
      rw [if_neg hE]
      exact this

section
variable (br bm bt g : Nat) (s t0 : ByteArray) (p : Nat) (hi : Int) (w : World)
  (hvr : Var w br 60 #[.pointer (some ⟨g, 0, none⟩)]) (hvm : Var w bm 3 #[.int .i64 hi]) (hvt : Var w bt 9 #[.string t0])
  (hr : Rd 92 w g s p false) (hp : p < s.size) (hx : s.size ≤ 1000000) (hgt : g ≠ bt)
include hvr hvm hvt hr hp hx hgt

set_option maxRecDepth 100000 in
set_option maxHeartbeats 1000000 in
theorem text1_ok (n k bg bh : Nat) (hd : VP.dec ((bytesOf s).drop p) = some (n, k)) (hhi : (n : Int) ≤ hi) (hbg : bg = p + k) (hbh : bh = p + k + n) (hfit : bh ≤ s.size) :
    Calls Tryd.prog 95 #[.pointer (some ⟨br, 0, none⟩), .pointer (some ⟨bm, 0, none⟩), .pointer (some ⟨bt, 0, none⟩)] w fun e w' =>
      e = .returned (.int .i64 (bh : Int)) ∧ Rd 92 w' g s p false ∧ Var w' bt 9 #[.string (s.extract bg bh)] ∧ Kept [bt] w w' := by
  have c1 : w.cell? ⟨br, 0, none⟩ = some (.pointer (some ⟨g, 0, none⟩)) := hvr.cell 0 rfl
  have c3 : w.cell? ⟨bm, 0, none⟩ = some (.int .i64 hi) := hvm.cell 0 rfl
  have hk6 := (VP.dec_only hd).2.2.2.1
  have HD := Lib.hid hd
  have HBG := Lib.hid hbg
  have HBH := Lib.hid hbh
  have hbgp : p ≤ bg := by omega
  have hbgb : bg ≤ bh := by omega
  have hsz := extract_size s p bh (by omega) hfit
  obtain ⟨lf, hlf⟩ : ∃ lf, lf = (s.extract p bh).size := ⟨_, rfl⟩
  have hcv := conv_eq (s.extract p bh)
  rw [← hlf] at hcv hsz
  have hlfb : lf = (bytesOf (s.extract p bh)).length := by rw [bytesOf_length]; exact hlf
  have hklf : k ≤ lf := by omega
  have hlfx : lf ≤ 1000000 := by omega
  have HLF := Lib.hid hlfb
  have HSZ := Lib.hid hsz
  have hge : (n : Int) ≤ (s.size : Int) - (bg : Int) := by omega
  have hsum : IntKind.i64.wrap ((bg : Int) + (n : Int)) = (bh : Int) := by rw [IntWalk.i64_in _ (by omega)]; omega
  have HSUM := Lib.hid hsum
  have hpb : p ≤ bh := by omega
  clear hd hbg hbh hsz hlf hlfb hsum
  go_enter Tryd.func95, Tryd.ntmps95
  go_wp2_with fail
  refine (number_yes g s p n k bg false 0 hi _ hr hp hx HD.out (by omega) hhi HBG.out).mono ?_
  rintro e w1 ⟨rfl, hb⟩
  have hr1 : Rd 92 w1 g s p false := Var.below hr hb (Var.lt hr)
  obtain ⟨d0, d1, d2⟩ := Rd.cells hr1
  have e1 : w1.cell? ⟨br, 0, none⟩ = some (.pointer (some ⟨g, 0, none⟩)) := (hvr.below hb hvr.lt).cell 0 rfl
  have hvt1 := hvt.below hb hvt.lt
  have hvr1 := hvr.below hb hvr.lt
  clear c1 c3
  go_wp2_with fail
  refine (must_yes _).mono ?_
  rintro e w2 ⟨rfl, rfl⟩
  have hsum' : (bg : Int) + (n : Int) = (bh : Int) := by have := HBG.out; have := HBH.out; omega
  go_wp2_with fail
  clear hsum'
  have hsd : w1.drew.heap.size = w1.heap.size := rfl
  have hbw : Below w1.heap.size w1 (Lib.bytesWorld w1.drew 5 (s.extract p bh)) := (Below.refl _ _).drew.trans (conv_below w1.drew _ _)
  have hsn := conv_seen w1.drew (s.extract p bh) 5
  rw [hsd] at hsn
  have hcap := grownCap_ge w1.drew lf 0 5
  obtain ⟨cp, hcp⟩ : ∃ cp, cp = grownCap w1.drew lf 0 5 := ⟨_, rfl⟩
  have hcv1 := hcv w1.drew
  rw [hsd, ← hcp] at hcv1
  rw [← hcp] at hcap
  obtain ⟨D, hcut, hsD⟩ := cut_lhm (P := Tryd.prog) hsn 27 5 Tryd.underlying27 u8_size lf cp k lf HLF.out hklf (Nat.le_refl _) hcap
  have hval : (⟨((((bytesOf (s.extract p bh)).drop k).take (lf - k))).toArray⟩ : ByteArray) = s.extract bg bh := by
    rw [extract_is s bg bh, bytesOf_extract, List.drop_take, List.drop_drop, List.take_take]
    have h1 := HBG.out
    have h2 := HBH.out
    have h3 := HSZ.out
    rw [show p + k = bg by omega, show min (lf - k) (bh - p - k) = bh - bg by omega]
  have hst := str_now (P := Tryd.prog) hsD 27 9 5 (lf - k) (lf - k) (by rw [List.length_take, List.length_drop, ← HLF.out]; omega) Tryd.underlying27 Tryd.underlying5 Tryd.underlying9
  rw [hval] at hst
  have hr2 : Rd 92 (Lib.bytesWorld w1.drew 5 (s.extract p bh)) g s p false := Var.below hr1 hbw (Var.lt hr1)
  have f1 : (Lib.bytesWorld w1.drew 5 (s.extract p bh)).cell? ⟨br, 0, none⟩ = some (.pointer (some ⟨g, 0, none⟩)) := (hvr1.below hbw hvr1.lt).cell 0 rfl
  have f2 : (Lib.bytesWorld w1.drew 5 (s.extract p bh)).cell? ⟨g, 1, none⟩ = some (.int .i64 (p : Int)) := (Rd.cells hr2).2.1
  have hvt2 := hvt1.below hbw hvt1.lt
  have f3 : (Lib.bytesWorld w1.drew 5 (s.extract p bh)).cell? ⟨bt, 0, none⟩ = some (.string t0) := hvt2.cell 0 rfl
  have f4 := hvt2.free 0
  have hsub : (bg : Int) - (p : Int) = (k : Int) := by have := HBG.out; omega
  have hr3 : Rd 92 ((Lib.bytesWorld w1.drew 5 (s.extract p bh)).setCell ⟨bt, 0, none⟩ (.string (s.extract bg bh))) g s p false := Var.other hr2 0 _ hgt
  have hv3 : Var ((Lib.bytesWorld w1.drew 5 (s.extract p bh)).setCell ⟨bt, 0, none⟩ (.string (s.extract bg bh))) bt 9 #[.string (s.extract bg bh)] := hvt2.set 0 _
  have hk3 : Kept [bt] w ((Lib.bytesWorld w1.drew 5 (s.extract p bh)).setCell ⟨bt, 0, none⟩ (.string (s.extract bg bh))) := ((Kept.of_below hb).trans (Kept.of_below hbw)).setCell (.inl (by simp)) _
  have HS := Lib.hid hsub
  clear hsn hsD hval hcap hcp hr1 hr2 hvt1 hvt2 hvr1 hsd hcv hsub hbw hb
  refine wp_region_head 10 (by kernel_rfl) (by kernel_rfl) ?_
  simp only [List.take_succ_cons, List.take_zero, List.drop_succ_cons, List.drop_zero]
  repeat still_step
  refine wpStill_nil ?_
  have hsub := HS.out
  go_wp2
  go_ret
  exact ⟨rfl, hr3, hv3, hk3⟩

omit hvt hgt in
set_option maxRecDepth 100000 in
theorem text1_no (hd : VP.dec ((bytesOf s).drop p) = none ∨ ∃ n k, VP.dec ((bytesOf s).drop p) = some (n, k) ∧ (hi < n ∨ s.size < p + k + n)) :
    Calls Tryd.prog 95 #[.pointer (some ⟨br, 0, none⟩), .pointer (some ⟨bm, 0, none⟩), .pointer (some ⟨bt, 0, none⟩)] w fun e w' =>
      e = .panicked [{ v := wrongV, recovered := false }] ∧ Below w.heap.size w w' := by
  have c1 : w.cell? ⟨br, 0, none⟩ = some (.pointer (some ⟨g, 0, none⟩)) := hvr.cell 0 rfl
  have c3 : w.cell? ⟨bm, 0, none⟩ = some (.int .i64 hi) := hvm.cell 0 rfl
  rcases hd with hd | ⟨n, k, hd, hout⟩
  · have HD := Lib.hid hd
    clear hd
    go_enter Tryd.func95, Tryd.ntmps95
    go_wp2_with fail
    refine (number_none g s p false 0 hi _ hr hp hx HD.out).mono ?_
    rintro e w1 ⟨rfl, hb⟩
    go_wp2
    exact ⟨rfl, rfl, hb⟩
  · by_cases hbig : hi < n
    · have HD := Lib.hid hd
      clear hd hout
      go_enter Tryd.func95, Tryd.ntmps95
      go_wp2_with fail
      refine (number_out g s p n k false 0 hi _ hr hp hx HD.out (.inr hbig)).mono ?_
      rintro e w1 ⟨rfl, hb⟩
      go_wp2
      exact ⟨rfl, rfl, hb⟩
    · obtain ⟨bg, hbg⟩ : ∃ bg, bg = p + k := ⟨_, rfl⟩
      have hlong : decide ((n : Int) ≤ (s.size : Int) - (bg : Int)) = false := by simp; omega
      have hbs : bg ≤ s.size := by
        have := (VP.dec_only hd).2.2.1
        rw [List.length_drop, bytesOf_length] at this
        omega
      have HD := Lib.hid hd
      have HBG := Lib.hid hbg
      have hhi : (n : Int) ≤ hi := by omega
      clear hd hout hbg
      go_enter Tryd.func95, Tryd.ntmps95
      go_wp2_with fail
      refine (number_yes g s p n k bg false 0 hi _ hr hp hx HD.out (by omega) hhi HBG.out).mono ?_
      rintro e w1 ⟨rfl, hb⟩
      have hr1 : Rd 92 w1 g s p false := Var.below hr hb (Var.lt hr)
      obtain ⟨d0, d1, d2⟩ := Rd.cells hr1
      have e1 : w1.cell? ⟨br, 0, none⟩ = some (.pointer (some ⟨g, 0, none⟩)) := (hvr.below hb hvr.lt).cell 0 rfl
      clear c1 c3
      go_wp2_with fail
      refine (must_no _).mono ?_
      rintro e w2 ⟨rfl, rfl⟩
      go_wp2
      exact ⟨rfl, rfl, hb⟩
end

/-- What Text reads: the text, the place behind, whether the reader is stopped. -/
def TextIs (s : ByteArray) (p : Nat) (bad : Bool) (hi : Int) (v : ByteArray) (p' : Nat) (bad' : Bool) : Prop :=
  (bad = false ∧ ∃ n k : Nat, VP.dec ((bytesOf s).drop p) = some (n, k) ∧ (n : Int) ≤ hi ∧ p + k + n ≤ s.size ∧ v = s.extract (p + k) (p + k + n) ∧ p' = p + k + n ∧ bad' = false) ∨
  ((bad = true ∨ VP.dec ((bytesOf s).drop p) = none ∨ ∃ n k : Nat, VP.dec ((bytesOf s).drop p) = some (n, k) ∧ (hi < n ∨ s.size < p + k + n)) ∧ v = ⟨#[]⟩ ∧ p' = p ∧ bad' = true)
theorem textIs_of (s : ByteArray) (p : Nat) (bad : Bool) (hi : Int) : ∃ v p' bad', TextIs s p bad hi v p' bad' := by
  by_cases hb : bad = true
  · exact ⟨⟨#[]⟩, p, true, .inr ⟨.inl hb, rfl, rfl, rfl⟩⟩
  · rcases hd : VP.dec ((bytesOf s).drop p) with _ | ⟨n, k⟩
    · exact ⟨⟨#[]⟩, p, true, .inr ⟨.inr (.inl hd), rfl, rfl, rfl⟩⟩
    · by_cases h : (n : Int) ≤ hi ∧ p + k + n ≤ s.size
      · exact ⟨_, _, false, .inl ⟨by simpa using hb, n, k, hd, h.1, h.2, rfl, rfl, rfl⟩⟩
      · exact ⟨⟨#[]⟩, p, true, .inr ⟨.inr (.inr ⟨n, k, hd, by omega⟩), rfl, rfl, rfl⟩⟩
theorem TextIs.le {s : ByteArray} {p : Nat} {bad : Bool} {hi : Int} {v : ByteArray} {p' : Nat} {bad' : Bool} (h : TextIs s p bad hi v p' bad') (hp : p ≤ s.size) : p' ≤ s.size := by
  rcases h with ⟨_, n, k, hd, _, h1, _, rfl, _⟩ | ⟨_, _, rfl, _⟩
  · exact h1
  · exact hp

/-- The variables that Text makes. -/
def textWorld (g : Nat) (hi : Int) (w : World) : World := ((w.alloc (.cells #[.pointer (some ⟨g, 0, none⟩)] 60)).alloc (.cells #[.int .i64 hi] 3)).alloc (.cells #[.string ⟨#[]⟩] 9)
theorem textWorld_size (g : Nat) (hi : Int) (w : World) : (textWorld g hi w).heap.size = w.heap.size + 3 := by simp [textWorld]
theorem textWorld_below (g : Nat) (hi : Int) (w : World) : Below w.heap.size w (textWorld g hi w) :=
  (((Below.refl _ _).alloc (Nat.le_refl _) _).alloc (by simp) _).alloc (by simp; omega) _
theorem textWorld_vars (g : Nat) (hi : Int) (w : World) : Var (textWorld g hi w) w.heap.size 60 #[.pointer (some ⟨g, 0, none⟩)] ∧
    Var (textWorld g hi w) (w.heap.size + 1) 3 #[.int .i64 hi] ∧ Var (textWorld g hi w) (w.heap.size + 2) 9 #[.string ⟨#[]⟩] := by
  have e1 : (w.alloc (.cells #[.pointer (some ⟨g, 0, none⟩)] 60)).heap.size = w.heap.size + 1 := by simp
  have e2 : ((w.alloc (.cells #[.pointer (some ⟨g, 0, none⟩)] 60)).alloc (.cells #[.int .i64 hi] 3)).heap.size = w.heap.size + 2 := by simp
  refine ⟨((Var.new _ _ _).alloc _).alloc _, ?_, ?_⟩
  · rw [← e1]; exact (Var.new _ _ _).alloc _
  · rw [← e2]; exact Var.new _ _ _

set_option maxRecDepth 100000 in
set_option maxHeartbeats 1000000 in
theorem text_all (g : Nat) (s : ByteArray) (p : Nat) (bad : Bool) (hi : Int) (v : ByteArray) (p' : Nat) (bad' : Bool) (w : World) (h : TextIs s p bad hi v p' bad') (hr : Rd 92 w g s p bad) (hx : s.size ≤ 1000000) (hp : p ≤ s.size) :
    Calls Tryd.prog 91 #[.pointer (some ⟨g, 0, none⟩), .int .i64 hi] w fun e w' => e = .returned (.string v) ∧ Rd 92 w' g s p' bad' ∧ Kept [g] w w' := by
  have hmf := mk_any
  have hb0 := textWorld_below g hi w
  have hr0 : Rd 92 (textWorld g hi w) g s p bad := Var.below hr hb0 (Var.lt hr)
  obtain ⟨v1, v3, v4⟩ := textWorld_vars g hi w
  have hg := Var.lt hr
  have hcf := enters 95 Tryd.func95 (by kernel_rfl) rfl #[.pointer (some ⟨w.heap.size, 0, none⟩), .pointer (some ⟨w.heap.size + 1, 0, none⟩), .pointer (some ⟨w.heap.size + 2, 0, none⟩)]
  have H := Lib.hid h
  have HCF := Lib.hid hcf
  have hsz := textWorld_size g hi w
  have HSZ := Lib.hid hsz
  clear h hcf hsz
  have hall : Calls Tryd.prog 92 #[.pointer (some ⟨g, 0, none⟩), .func (.func 95) #[] #[.pointer (some ⟨w.heap.size, 0, none⟩), .pointer (some ⟨w.heap.size + 1, 0, none⟩), .pointer (some ⟨w.heap.size + 2, 0, none⟩)]] (textWorld g hi w)
      fun e w' => e = .returned (.tuple #[]) ∧ Rd 92 w' g s p' bad' ∧ w'.cell? ⟨w.heap.size + 2, 0, none⟩ = some (.string v) ∧ Kept [g] w w' := by
    have stop : ∀ w', Kept [g] (textWorld g hi w) w' → w'.cell? ⟨w.heap.size + 2, 0, none⟩ = some (.string ⟨#[]⟩) ∧ Kept [g] w w' := fun w' hk =>
      ⟨(v4.kept hk (by simp; omega)).cell 0 rfl, (Kept.of_below hb0).trans hk⟩
    rcases H.out with ⟨rfl, n, k, hd, hhi, hfit, rfl, rfl, rfl⟩ | ⟨hc, rfl, rfl, rfl⟩
    · have hlt : p < s.size := by
        have := (VP.dec_only hd).2.2.1
        have h0 := (VP.dec_only hd).2.1
        rw [List.length_drop, bytesOf_length] at this
        omega
      refine (read_ok _ _ g s p (p + k + n) (w.heap.size + 2) 9 (.string (s.extract (p + k) (p + k + n))) _ hr0 hlt (by omega) (by rw [HSZ.out]; simp) HCF.out ?_).mono ?_
      · intro W hb
        have hl := HSZ.out
        exact text1_ok _ _ _ g s ⟨#[]⟩ p hi W (v1.below hb (by omega)) (v3.below hb (by omega)) (v4.below hb (by omega)) (Var.below hr0 hb (Var.lt hr0)) hlt hx (by omega) n k _ _ hd hhi rfl rfl hfit
      · rintro e w' ⟨rfl, h1, h2, h3⟩
        exact ⟨rfl, h1, h2.cell 0 rfl, (Kept.of_below hb0).then h3 (by intro x hx; simp at hx; rcases hx with rfl | rfl; exact .inl (by simp); exact .inr (by omega))⟩
    · by_cases hbad : bad = true
      · subst hbad
        refine (read_bad _ g s p' _ hr0).mono ?_
        rintro e w' ⟨rfl, h1, h2⟩
        exact ⟨rfl, h1, stop w' h2⟩
      · have hbf : bad = false := by simpa using hbad
        subst hbf
        by_cases hlt : p' < s.size
        · refine (read_no _ _ g s p' _ hr0 hlt HCF.out ?_).mono ?_
          · intro W hb
            have hl := HSZ.out
            refine text1_no _ _ _ g s p' hi W (v1.below hb (by omega)) (v3.below hb (by omega)) (Var.below hr0 hb (Var.lt hr0)) hlt hx ?_
            rcases hc with hc | hc
            · cases hc
            · exact hc
          · rintro e w' ⟨rfl, h1, h2⟩
            exact ⟨rfl, h1, stop w' h2⟩
        · refine (read_end _ g s p' _ hr0 (by omega)).mono ?_
          rintro e w' ⟨rfl, h1, h2⟩
          exact ⟨rfl, h1, stop w' h2⟩
  have HALL := Lib.hid hall
  clear hall v1 v3 v4 hr0 hb0
  go_enter Tryd.func91, Tryd.ntmps91
  go_wp2_with fail
  refine (show Calls _ _ _ (textWorld g hi w) _ from HALL.out).mono ?_
  rintro e w1 ⟨rfl, h1, h2, h3⟩
  go_wp2
  go_ret
  exact ⟨rfl, h1, h3⟩

set_option maxRecDepth 100000 in
theorem text_nil (hi : Int) (w : World) : Calls Tryd.prog 91 #[.pointer none, .int .i64 hi] w fun e w' => e = .returned (.string ⟨#[]⟩) ∧ Below w.heap.size w w' := by
  have hmf := mk_any
  go_enter Tryd.func91, Tryd.ntmps91
  go_wp2_with fail
  refine (read_nil _ _).mono ?_
  rintro e w1 ⟨rfl, hb⟩
  have hb1 : Below w.heap.size w w1 := ((((Below.refl _ _).alloc (Nat.le_refl _) _).alloc (by simp) _).alloc (by simp; omega) _).trans (hb.mono (by simp; omega))
  have hc : w1.cell? ⟨w.heap.size + 2, 0, none⟩ = some (.string ⟨#[]⟩) := by
    rw [hb.cell (p := ⟨w.heap.size + 2, 0, none⟩) (by simp)]
    go_simp
  go_wp2
  go_ret
  exact ⟨rfl, hb1⟩

end Go.Proofs.YtplpagnnlggfgaaDoor
