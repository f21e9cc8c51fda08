/-
  Contracts of fields' number: what it returns and what it does to memory. Conditions: those that each theorem names.
-/
import Derived.Test.YtchpemgamgcbkaaFldRead
import Derived.Deep.DrawnRows
namespace Go.Proofs.Ytchpemgamgcbkaa
open Go.RowKit
attribute [local go_sem ↓] Go.wp_at_zero Go.wp_at_succ

theorem _root_.Go.RowKit.Below.drewN' {B : Nat} {a w : World} (h : Below B a w) (n : Nat) : Below B a (w.drewN n) := ⟨h.os, h.tape, h.output, h.size, h.block⟩
/-- A number is told by its first six bytes. -/
theorem decGo_take : ∀ (l : List UInt8) (i a : Nat), i ≤ 6 → VP.decGo i a (l.take (6 - i)) = VP.decGo i a l := by
  intro l
  induction l with
  | nil => intro i a _; simp
  | cons c r ih =>
    intro i a hi
    by_cases h6 : i = 6
    · subst h6
      rw [VP.decGo_far (Nat.le_refl _), VP.decGo_far (Nat.le_refl _)]
    · rw [show 6 - i = (6 - (i + 1)) + 1 by omega, List.take_succ_cons]
      by_cases hm : 128 ≤ c.toNat
      · rw [VP.decGo_more (by omega) hm, VP.decGo_more (by omega) hm, ih _ _ (by omega)]
      · by_cases hb : 1099511627776 < a + c.toNat % 128 * 128 ^ i ∨ (c.toNat = 0 ∧ 0 < i)
        · rw [VP.decGo_bad (by omega) (by omega) hb, VP.decGo_bad (by omega) (by omega) hb]
        · rw [VP.decGo_last (by omega) (by omega) hb, VP.decGo_last (by omega) (by omega) hb]
theorem dec_take (l : List UInt8) (k : Nat) (hk : 6 ≤ k) : VP.dec (l.take k) = VP.dec l := by
  have h1 := decGo_take l 0 0 (by omega)
  have h2 := decGo_take (l.take k) 0 0 (by omega)
  rw [List.take_take, Nat.min_eq_left (by omega)] at h2
  unfold VP.dec
  rw [← h2, ← h1]

theorem dec_cut {s : ByteArray} {p hi : Nat} (hh : (p + 6 ≤ s.size → hi = p + 6) ∧ (s.size < p + 6 → hi = s.size)) : VP.dec (bytesOf (s.extract p hi)) = VP.dec ((bytesOf s).drop p) := by
  rw [bytesOf_extract]
  by_cases h : p + 6 ≤ s.size
  · rw [hh.1 h, show p + 6 - p = 6 by omega]; exact dec_take _ _ (Nat.le_refl _)
  · rw [hh.2 (by omega), List.take_of_length_le (by rw [List.length_drop, bytesOf_length]; omega)]

theorem enc_most : (VP.enc 1099511627776).length = 6 := by
  rw [VP.enc_great (by decide), VP.enc_great (by decide), VP.enc_great (by decide), VP.enc_great (by decide), VP.enc_great (by decide), VP.enc_small (by decide)]; rfl
theorem len_most (w : World) : Calls Try.prog 61 #[.int .i64 1099511627776] w fun e w' => e = .returned (.int .i64 6) ∧ w' = w := by
  have h := len_yes 1099511627776 w (Nat.le_refl _)
  rw [enc_most] at h
  exact h.mono fun _ _ ⟨h1, h2⟩ => ⟨h1, h2.symm⟩

/-- '[]byte(s)', as the walk asks for it. -/
theorem conv_eq (s : ByteArray) (W : World) : (convert 9 42 (.string s)).run Try.prog W = .ok (.slice (some ⟨W.heap.size, 0, none⟩) s.size (grownCap W s.size 0 5)) (Lib.bytesWorld W 5 s) :=
  Lib.run_convert_string_bytes W _ _ _ s Try.underlying9 Try.underlying42 Try.underlying5
theorem conv_seen (W : World) (s : ByteArray) (e : TypeId) : Seen (Lib.bytesWorld W e s) (Lib.bytesWorld W e s).heap.size (some ⟨W.heap.size, 0, none⟩) (cells (bytesOf s)) := fun _ =>
  ⟨W.heap.size, 0, rfl, by rw [Lib.bytesWorld_size]; omega, fun j u hu => by
    obtain ⟨hj, rfl⟩ := cells_get hu
    have hj' : j < s.size := by rw [← bytesOf_length]; exact hj
    rw [Nat.zero_add, Lib.bytesWorld_cell W e s j hj']
    unfold bytesOf at hj ⊢
    simp [List.getD, List.getElem?_eq_getElem hj]⟩
theorem conv_below (W : World) (s : ByteArray) (e : TypeId) : Below W.heap.size W (Lib.bytesWorld W e s) := ⟨rfl, rfl, rfl, by rw [Lib.bytesWorld_size]; omega, fun k hk => Lib.bytesWorld_at_old W e s k hk⟩

set_option maxRecDepth 100000 in
set_option maxHeartbeats 1000000 in
theorem number_yes (g : Nat) (s : ByteArray) (p n k bh : Nat) (bad : Bool) (lo hi : Int) (w : World) (hr : Rd 81 w g s p bad) (hp : p < s.size) (hx : s.size ≤ 1000000) (hd : VP.dec ((bytesOf s).drop p) = some (n, k)) (hlo : lo ≤ n) (hhi : (n : Int) ≤ hi) (hbh : bh = p + k) :
    Calls Try.prog 43 #[.pointer (some ⟨g, 0, none⟩), .int .i64 lo, .int .i64 hi] w fun e w' => e = .returned (.tuple #[.int .i64 (n : Int), .int .i64 (bh : Int)]) ∧ Below w.heap.size w w' := by
  obtain ⟨c0, c1, c2⟩ := Rd.cells hr
  obtain ⟨m, hm, HW⟩ : ∃ m : Nat, (p ≤ m ∧ m ≤ p + 6 ∧ m ≤ s.size) ∧ Hid ((p + 6 ≤ s.size → m = p + 6) ∧ (s.size < p + 6 → m = s.size)) := by
    by_cases h : p + 6 ≤ s.size
    · exact ⟨p + 6, by omega, fun _ => rfl, fun h' => by omega⟩
    · exact ⟨s.size, by omega, fun h' => by omega, fun _ => rfl⟩
  obtain ⟨hm1, hm2, hm3⟩ := hm
  have HD : Hid (VP.dec (bytesOf (s.extract p m)) = some (n, k)) := by show _ = _; rw [dec_cut HW.out]; exact hd
  have hk6 := (VP.dec_only hd).2.2.2.1
  have HBH := Lib.hid hbh
  clear hd hbh
  go_enter Try.func43, Try.ntmps43
  go_upto_region 2 with fail
  go_cut [8] (fun s8 wx => s8 = .int .i64 (m : Int) ∧ ∃ q, wx = w.drewN q)
  case first =>
    go_quiet ((go_at_call 61; exact Calls.quiet_of_same (len_most _)))
    go_wp2_with fail
    all_goals go_meet
    all_goals (refine ⟨?_, _, rfl⟩; have := HW.out; congr 1; omega)
  case rest =>
    obtain ⟨rfl, q, rfl⟩ := hcut
    have hcv := conv_eq (s.extract p m)
    have hg : g < w.heap.size := Var.lt hr
    have hsz := extract_size s p m hm1 hm3
    obtain ⟨ls, hls⟩ : ∃ ls, ls = (s.extract p m).size := ⟨_, rfl⟩
    rw [← hls] at hcv hsz
    have HLS : Hid (ls = (bytesOf (s.extract p m)).length) := by show _ = _; rw [bytesOf_length]; exact hls
    have hls6 : ls ≤ 6 := by omega
    clear hls hsz
    go_wp2_with fail
    go_region_with ((go_at_call 62; refine (get_yes _ _ (bytesOf (s.extract p m)) ls 0 n k _ HLS.out ?_ (by omega) ?_ (by omega) k HD.out (by omega)).mono ?_; (exact conv_seen _ _ _); (exact grownCap_ge _ _ _ _); rintro e w2 ⟨rfl, hb⟩))
    all_goals
      have hb2 : Below w.heap.size w w2 := (((Below.refl _ _).drewN' _).trans (conv_below _ _ _)).trans (hb.mono (by rw [Lib.bytesWorld_size]; simp))
      have d1 : w2.cell? ⟨g, 1, none⟩ = some (.int .i64 (p : Int)) := (hb2.cell (p := ⟨g, 1, none⟩) hg).trans c1
      clear hb hcv c0 c1 c2 hr
      go_wp2_with fail
      refine (must_yes _).mono ?_
      rintro e w3 ⟨rfl, rfl⟩
      go_wp2_with fail
      have hsum : IntKind.i64.wrap ((p : Int) + (k : Int)) = (bh : Int) := by have := HBH.out; rw [IntWalk.i64_in _ (by omega)]; omega
      go_quiet (fail)
      clear hsum
      go_wp2
      go_ret2
      exact ⟨rfl, below_drewN hb2 _⟩

set_option maxRecDepth 100000 in
set_option maxHeartbeats 1000000 in
theorem number_out (g : Nat) (s : ByteArray) (p n k : Nat) (bad : Bool) (lo hi : Int) (w : World) (hr : Rd 81 w g s p bad) (hp : p < s.size) (hx : s.size ≤ 1000000) (hd : VP.dec ((bytesOf s).drop p) = some (n, k)) (hout : (n : Int) < lo ∨ hi < n) :
    Calls Try.prog 43 #[.pointer (some ⟨g, 0, none⟩), .int .i64 lo, .int .i64 hi] w fun e w' => e = .panicked [{ v := wrongV, recovered := false }] ∧ Below w.heap.size w w' := by
  obtain ⟨c0, c1, c2⟩ := Rd.cells hr
  obtain ⟨m, hm, HW⟩ : ∃ m : Nat, (p ≤ m ∧ m ≤ p + 6 ∧ m ≤ s.size) ∧ Hid ((p + 6 ≤ s.size → m = p + 6) ∧ (s.size < p + 6 → m = s.size)) := by
    by_cases h : p + 6 ≤ s.size
    · exact ⟨p + 6, by omega, fun _ => rfl, fun h' => by omega⟩
    · exact ⟨s.size, by omega, fun h' => by omega, fun _ => rfl⟩
  obtain ⟨hm1, hm2, hm3⟩ := hm
  have HD : Hid (VP.dec (bytesOf (s.extract p m)) = some (n, k)) := by show _ = _; rw [dec_cut HW.out]; exact hd
  have hk6 := (VP.dec_only hd).2.2.2.1
  clear hd
  go_enter Try.func43, Try.ntmps43
  go_upto_region 2 with fail
  go_cut [8] (fun s8 wx => s8 = .int .i64 (m : Int) ∧ ∃ q, wx = w.drewN q)
  case first =>
    go_quiet ((go_at_call 61; exact Calls.quiet_of_same (len_most _)))
    go_wp2_with fail
    all_goals go_meet
    all_goals (refine ⟨?_, _, rfl⟩; have := HW.out; congr 1; omega)
  case rest =>
    obtain ⟨rfl, q, rfl⟩ := hcut
    have hcv := conv_eq (s.extract p m)
    have hg : g < w.heap.size := Var.lt hr
    have hsz := extract_size s p m hm1 hm3
    obtain ⟨ls, hls⟩ : ∃ ls, ls = (s.extract p m).size := ⟨_, rfl⟩
    rw [← hls] at hcv hsz
    have HLS : Hid (ls = (bytesOf (s.extract p m)).length) := by show _ = _; rw [bytesOf_length]; exact hls
    have hls6 : ls ≤ 6 := by omega
    clear hls hsz
    go_wp2_with fail
    go_region_with ((go_at_call 62; refine (get_yes _ _ (bytesOf (s.extract p m)) ls 0 n k _ HLS.out ?_ (by omega) ?_ (by omega) k HD.out (by omega)).mono ?_; (exact conv_seen _ _ _); (exact grownCap_ge _ _ _ _); rintro e w2 ⟨rfl, hb⟩))
    all_goals
      have hb2 : Below w.heap.size w w2 := (((Below.refl _ _).drewN' _).trans (conv_below _ _ _)).trans (hb.mono (by rw [Lib.bytesWorld_size]; simp))
      have d1 : w2.cell? ⟨g, 1, none⟩ = some (.int .i64 (p : Int)) := (hb2.cell (p := ⟨g, 1, none⟩) hg).trans c1
      clear hb hcv c0 c1 c2 hr
      rcases hout with hlo | hhi
      · go_wp2_with fail
        refine (must_no _).mono ?_
        rintro e w3 ⟨rfl, rfl⟩
        go_wp2
        exact ⟨rfl, rfl, hb2⟩
      · by_cases hlo : lo ≤ n
        · have hdd : decide ((n : Int) ≤ hi) = false := by simp; omega
          go_wp2_with fail
          refine (must_no _).mono ?_
          rintro e w3 ⟨rfl, rfl⟩
          go_wp2
          exact ⟨rfl, rfl, hb2⟩
        · go_wp2_with fail
          refine (must_no _).mono ?_
          rintro e w3 ⟨rfl, rfl⟩
          go_wp2
          exact ⟨rfl, rfl, hb2⟩

set_option maxRecDepth 100000 in
set_option maxHeartbeats 1000000 in
theorem number_none (g : Nat) (s : ByteArray) (p : Nat) (bad : Bool) (lo hi : Int) (w : World) (hr : Rd 81 w g s p bad) (hp : p < s.size) (hx : s.size ≤ 1000000) (hd : VP.dec ((bytesOf s).drop p) = none) :
    Calls Try.prog 43 #[.pointer (some ⟨g, 0, none⟩), .int .i64 lo, .int .i64 hi] w fun e w' => e = .panicked [{ v := wrongV, recovered := false }] ∧ Below w.heap.size w w' := by
  obtain ⟨c0, c1, c2⟩ := Rd.cells hr
  obtain ⟨m, hm, HW⟩ : ∃ m : Nat, (p ≤ m ∧ m ≤ p + 6 ∧ m ≤ s.size) ∧ Hid ((p + 6 ≤ s.size → m = p + 6) ∧ (s.size < p + 6 → m = s.size)) := by
    by_cases h : p + 6 ≤ s.size
    · exact ⟨p + 6, by omega, fun _ => rfl, fun h' => by omega⟩
    · exact ⟨s.size, by omega, fun h' => by omega, fun _ => rfl⟩
  obtain ⟨hm1, hm2, hm3⟩ := hm
  have HD : Hid (VP.dec (bytesOf (s.extract p m)) = none) := by show _ = _; rw [dec_cut HW.out]; exact hd
  clear hd
  go_enter Try.func43, Try.ntmps43
  go_upto_region 2 with fail
  go_cut [8] (fun s8 wx => s8 = .int .i64 (m : Int) ∧ ∃ q, wx = w.drewN q)
  case first =>
    go_quiet ((go_at_call 61; exact Calls.quiet_of_same (len_most _)))
    go_wp2_with fail
    all_goals go_meet
    all_goals (refine ⟨?_, _, rfl⟩; have := HW.out; congr 1; omega)
  case rest =>
    obtain ⟨rfl, q, rfl⟩ := hcut
    have hcv := conv_eq (s.extract p m)
    have hg : g < w.heap.size := Var.lt hr
    have hsz := extract_size s p m hm1 hm3
    obtain ⟨ls, hls⟩ : ∃ ls, ls = (s.extract p m).size := ⟨_, rfl⟩
    rw [← hls] at hcv hsz
    have HLS : Hid (ls = (bytesOf (s.extract p m)).length) := by show _ = _; rw [bytesOf_length]; exact hls
    have hls6 : ls ≤ 6 := by omega
    clear hls hsz
    go_wp2_with fail
    go_region_with ((go_at_call 62; refine (get_not _ _ (bytesOf (s.extract p m)) ls 0 _ HLS.out ?_ (by omega) ?_ (.inr (.inr (by simpa using HD.out)))).mono ?_; (exact conv_seen _ _ _); (exact grownCap_ge _ _ _ _); rintro e w2 ⟨rfl, hb⟩))
    all_goals
      have hb2 : Below w.heap.size w w2 := (((Below.refl _ _).drewN' _).trans (conv_below _ _ _)).trans (hb.mono (by rw [Lib.bytesWorld_size]; simp))
      have d1 : w2.cell? ⟨g, 1, none⟩ = some (.int .i64 (p : Int)) := (hb2.cell (p := ⟨g, 1, none⟩) hg).trans c1
      clear hb hcv c0 c1 c2 hr
      go_wp2_with fail
      refine (must_no _).mono ?_
      rintro e w3 ⟨rfl, rfl⟩
      go_wp2
      exact ⟨rfl, rfl, hb2⟩

end Go.Proofs.Ytchpemgamgcbkaa
