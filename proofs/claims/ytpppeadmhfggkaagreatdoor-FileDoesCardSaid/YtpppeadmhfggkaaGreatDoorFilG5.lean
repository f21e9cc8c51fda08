/-
  Contracts of the reference's First, All, Whole and Same: what each returns and what it does to memory. Conditions: those that each theorem names.
  Contracts of frame's and the reference's Bytes: what each returns and what it does to memory. Conditions: those that each theorem names.
  Slices of strings that came in, opened to their cells. No conditions.
-/
import Derived.Test.YtpppeadmhfggkaaGreatDoorFilG3
import Derived.Deep.QuietTactic
import Derived.BigQuiet
import Derived.IntWalk
import Derived.Deep.Slices
import Derived.ChangeArms
import Derived.SizedLaws
namespace Go.Proofs.YtpppeadmhfggkaaGreatDoor
open Go.RowKit

/-- What First returns. -/
def firstV (s : ByteArray) : Value := if FP.fst (bytesOf s) = 0 then .tuple #[.string ByteArray.empty, .int .i64 0, .bool false] else .tuple #[.string (str (FP.load (bytesOf s))), .int .i64 (FP.fst (bytesOf s) : Nat), .bool true]
theorem firstV_no {s : ByteArray} (h : FP.fst (bytesOf s) = 0) : firstV s = .tuple #[.string ByteArray.empty, .int .i64 0, .bool false] := if_pos h
theorem firstV_yes {s : ByteArray} (h : FP.fst (bytesOf s) ≠ 0) : firstV s = .tuple #[.string (str (FP.load (bytesOf s))), .int .i64 (FP.fst (bytesOf s) : Nat), .bool true] := if_neg h
theorem load_extract (s : ByteArray) (f : Nat) (hf : FP.fst (bytesOf s) = f) : s.extract 4 f = str (FP.load (bytesOf s)) := by
  rw [extract_is, FP.load, hf, str, List.drop_take]

theorem rfirst_short (s : ByteArray) (w : World) (h : s.size < 4) : Calls Tryz.prog 70 #[.string s] w fun e w' => e = .returned (firstV s) ∧ Below w.heap.size w w' := by
  have hd : decide ((s.size : Int) < 4) = true := by simp; omega
  go_enter Tryz.func70, Tryz.ntmps70
  go_wp2
  refine bodyPost_ret (results_tmp3 rfl _ _ _) rfl ?_
  exact ⟨by rw [firstV_no (FP.fst_short (by rw [bytesOf_length]; exact h))]; rfl, Below.refl _ _⟩

theorem num_size {s : ByteArray} (h0 : 0 < s.size) (h1 : 1 < s.size) (h2 : 2 < s.size) (h3 : 3 < s.size) : FP.num (bytesOf s) = s[0].toNat + s[1].toNat * 256 + s[2].toNat * 65536 + s[3].toNat * 16777216 := by
  unfold FP.num
  rw [get_is s 0 h0, get_is s 1 h1, get_is s 2 h2, get_is s 3 h3]
  have hl := bytesOf_length s
  simp only [List.getD_eq_getElem?_getD]
  rw [List.getElem?_eq_getElem (by omega), List.getElem?_eq_getElem (by omega), List.getElem?_eq_getElem (by omega), List.getElem?_eq_getElem (by omega)]
  rfl

set_option maxRecDepth 100000 in
set_option maxHeartbeats 400000 in
theorem rfirst_long (s : ByteArray) (w : World) (h : 4 ≤ s.size) (hm : s.size ≤ 140737488351232) (f : Nat) (hf : f = FP.fst (bytesOf s)) : Calls Tryz.prog 70 #[.string s] w fun e w' => e = .returned (firstV s) ∧ Below w.heap.size w w' := by
  have h0 : 0 < s.size := by omega
  have h1 : 1 < s.size := by omega
  have h2 : 2 < s.size := by omega
  have h3 : 3 < s.size := by omega
  have hnum := num_size h0 h1 h2 h3
  have hd : decide ((s.size : Int) < 4) = false := by simp; omega
  obtain ⟨a0, ha0⟩ : ∃ a, s[0].toNat = a := ⟨_, rfl⟩
  obtain ⟨a1, ha1⟩ : ∃ a, s[1].toNat = a := ⟨_, rfl⟩
  obtain ⟨a2, ha2⟩ : ∃ a, s[2].toNat = a := ⟨_, rfl⟩
  obtain ⟨a3, ha3⟩ : ∃ a, s[3].toNat = a := ⟨_, rfl⟩
  have k0 : a0 < 256 := by rw [← ha0]; exact UInt8.toNat_lt _
  have k1 : a1 < 256 := by rw [← ha1]; exact UInt8.toNat_lt _
  have k2 : a2 < 256 := by rw [← ha2]; exact UInt8.toNat_lt _
  have k3 : a3 < 256 := by rw [← ha3]; exact UInt8.toNat_lt _
  have HN : Hid (FP.num (bytesOf s) = a0 + a1 * 256 + a2 * 65536 + a3 * 16777216) := by show _ = _; rw [hnum, ha0, ha1, ha2, ha3]
  obtain ⟨n, hn⟩ : ∃ n : Nat, (a0 : Int) + (a1 : Int) * 256 + (a2 : Int) * 65536 + (a3 : Int) * 16777216 = (n : Int) := ⟨a0 + a1 * 256 + a2 * 65536 + a3 * 16777216, by omega⟩
  have hN : FP.num (bytesOf s) = n := by rw [HN.out]; omega
  have hff : (n ≤ 1024 ∧ n + 4 ≤ s.size → f = n + 4) ∧ (1024 < n ∨ s.size < n + 4 → f = 0) := by
    rw [hf]
    exact ⟨fun h => by rw [FP.fst_yes (by omega) (by rw [bytesOf_length]; omega)]; omega, fun h => FP.fst_no (by rw [bytesOf_length]; omega)⟩
  have HE := Lib.hid hn
  have HC := Lib.hid hff
  have HF := Lib.hid hf
  have hnm : n < 4294967296 := by omega
  clear hnum hf hN hff hn HN
  go_enter Tryz.func70, Tryz.ntmps70
  go_wp2
  refine wp_region_quiet_lit (by kernel_rfl) (by kernel_rfl) ?_
  repeat (go_big_quiet_step (fail))
  refine wpQuiet_nil ?_
  intro _ hw'
  obtain ⟨nq, hw''⟩ := hw'
  subst hw''
  rw [HE.out]
  by_cases hx : n ≤ 1024
  · have d1 : decide ((1024 : Int) < (n : Int)) = false := by simp; omega
    by_cases hy : n + 4 ≤ s.size
    · have d2 : decide ((s.size : Int) - 4 < (n : Int)) = false := by simp; omega
      have e1 : f = n + 4 := HC.out.1 ⟨hx, hy⟩
      have HE1 := Lib.hid e1
      clear e1
      go_wp2
      refine bodyPost_ret (results_tmp3 rfl _ _ _) rfl ?_
      refine ⟨?_, below_drewN (Below.refl _ _) _⟩
      have e2 : FP.fst (bytesOf s) = n + 4 := by rw [← HF.out]; exact HE1.out
      rw [firstV_yes (by omega), ← load_extract s _ rfl, e2]
      show Ending.returned (.tuple #[.string _, .int _ _, .bool _]) = _
      rw [show 4 + n = n + 4 by omega, show (4 : Int) + (n : Int) = ((n + 4 : Nat) : Int) by omega]
    · have d2 : decide ((s.size : Int) - 4 < (n : Int)) = true := by simp; omega
      have HE1 := Lib.hid (HC.out.2 (by omega))
      go_wp2
      refine bodyPost_ret (results_tmp3 rfl _ _ _) rfl ?_
      exact ⟨by rw [firstV_no (by rw [← HF.out]; exact HE1.out)]; rfl, below_drewN (Below.refl _ _) _⟩
  · have HE1 := Lib.hid (HC.out.2 (by omega))
    go_wp2
    refine bodyPost_ret (results_tmp3 rfl _ _ _) rfl ?_
    exact ⟨by rw [firstV_no (by rw [← HF.out]; exact HE1.out)]; rfl, below_drewN (Below.refl _ _) _⟩

theorem rfirst_any (s : ByteArray) (w : World) (hm : s.size ≤ 140737488351232) : Calls Tryz.prog 70 #[.string s] w fun e w' => e = .returned (firstV s) ∧ Below w.heap.size w w' := by
  by_cases h : s.size < 4
  · exact rfirst_short s w h
  · exact rfirst_long s w (by omega) hm _ rfl

set_option maxRecDepth 100000 in
set_option maxHeartbeats 1000000 in
theorem rall_any (s : ByteArray) (hs : s.size ≤ 1000000) (w : World) :
    Calls Tryz.prog 55 #[.string s] w fun e W' => ∃ A c, e = .returned (.tuple #[.slice A (FP.rows (bytesOf s)).length c, .int .i64 (FP.torn (bytesOf s) : Nat)]) ∧
      Seen W' W'.heap.size A (strs (FP.rows (bytesOf s))) ∧ (FP.rows (bytesOf s)).length ≤ c ∧ Below w.heap.size w W' := by
  obtain ⟨i0, hi, hz0, hz1, hz2⟩ := info_parts str_info
  go_enter Tryz.func55, Tryz.ntmps55
  go_wp2
  go_loopw [4, 5] (fun v x wr => ∃ (pre : List (List UInt8)) (n p : Nat), n = pre.length ∧ x = .int .i64 (p : Int) ∧ p ≤ s.size ∧ FP.At (bytesOf s) pre p ∧ wr.ownsRow w.heap.size 9 1 v n (strs pre) ∧ Below w.heap.size w wr)
    (fun _ x _ => s.size - (intOf x).toNat)
  case atStart => exact ⟨[], 0, 0, rfl, rfl, by omega, FP.At.start _, World.ownsRow_nil _ _ _ _, Below.refl _ _⟩
  case round =>
    obtain ⟨pre, n, p, hn, rfl, hp, hat, hown, hb⟩ := hrel
    have HN := Lib.hid hn
    have HAT := Lib.hid hat
    have hcnt := hat.count
    rw [← hn, bytesOf_length] at hcnt
    clear hn hat
    obtain ⟨A, c, rfl, hseen, hnc⟩ := own_form hown
    have hx := bytesOf_extract s p s.size
    rw [List.take_of_length_le (by rw [List.length_drop, bytesOf_length]; omega)] at hx
    have hsz := extract_size s p s.size hp (Nat.le_refl _)
    have HX := Lib.hid hx
    clear hx
    have hfin : FP.fst ((bytesOf s).drop p) = 0 → ∀ W : World, Below wr.heap.size wr W → ∃ A' c', Ending.returned (.tuple #[.slice A n c, .int .i64 ((s.size : Int) - (p : Int))]) = .returned (.tuple #[.slice A' (FP.rows (bytesOf s)).length c', .int .i64 (FP.torn (bytesOf s) : Nat)]) ∧
        Seen W W.heap.size A' (strs (FP.rows (bytesOf s))) ∧ (FP.rows (bytesOf s)).length ≤ c' ∧ Below w.heap.size w W := fun hf W hW => by
      have hd := HAT.out.done hf
      rw [hd.1, hd.2, ← HN.out, bytesOf_length]
      exact ⟨A, c, by rw [show (s.size : Int) - (p : Int) = ((s.size - p : Nat) : Int) by omega], (hseen.below hW).up hW.size, hnc, hb.trans (hW.mono hb.size)⟩
    have HFIN := Lib.hid hfin
    clear hfin
    by_cases hlt : p < s.size
    · by_cases hf : FP.fst ((bytesOf s).drop p) = 0
      · have hr := fun W => rfirst_any (s.extract p s.size) W (by omega)
        rw [firstV_no (by rw [HX.out]; exact hf)] at hr
        have HF := Lib.hid hf
        have HR := Lib.hid hr
        clear hf hr
        go_wp2_with fail
        refine (HR.out _).mono ?_
        rintro e w1 ⟨rfl, hb1⟩
        go_wp2
        go_ret2
        exact HFIN.out HF.out _ hb1
      · have hr := fun W => rfirst_any (s.extract p s.size) W (by omega)
        rw [firstV_yes (by rw [HX.out]; exact hf), HX.out] at hr
        obtain ⟨f, hff⟩ : ∃ f, f = FP.fst ((bytesOf s).drop p) := ⟨_, rfl⟩
        obtain ⟨ld, hld⟩ : ∃ ld, ld = FP.load ((bytesOf s).drop p) := ⟨_, rfl⟩
        have hle := FP.fst_le ((bytesOf s).drop p)
        rw [List.length_drop, bytesOf_length, ← hff] at hle
        have h4 := FP.fst_four hf
        rw [← hff] at h4
        rw [← hff, ← hld] at hr
        have hst := HAT.out.step hf
        rw [← hff, ← hld] at hst
        have HST := Lib.hid hst
        have HR := Lib.hid hr
        clear hr hff hld hst hf
        go_wp2_with fail
        refine (HR.out _).mono ?_
        rintro e w1 ⟨rfl, hb1⟩
        have hown1 := own_below hown hb1
        go_wp2_with (at_builtin; refine wpList_append_own _ rfl _ _ 40 rfl w.heap.size 9 i0 (.string ByteArray.empty) 1 16 Tryz.underlying40 hi hz0 hz1 hz2 rfl (by decide) _ _ _ rfl (hown1.alloc _) ⟨w1.heap.size, 0, none⟩ 1 1 [.string (str ld)] rfl rfl ?c1 ?c2 ?c3 ?c4 ?c5 ?_)
        case c1 => exact cell_one_new _ _ _
        case c2 => intro u hu; simp at hu; subst hu; rfl
        case c3 => unfold maxLen; omega
        case c4 => omega
        case c5 => have := hb.size; have := hb1.size; simp; omega
        intro v' w2 hown2 hgrow _
        have hb2 : Below w.heap.size w w2 := ((hb.trans (hb1.mono hb.size)).alloc (by have := hb.size; have := hb1.size; omega) _).grown hgrow (by have := hb.size; have := hb1.size; simp; omega) (fun k hk => (hown1.lt k hk).1)
        have HN2 : Hid (n + 1 = (pre ++ [ld]).length) := by show _ = _; rw [List.length_append, ← HN.out]; rfl
        have hown3 : w2.ownsRow w.heap.size 9 1 v' (n + 1) (strs (pre ++ [ld])) := by rw [strs_append]; exact hown2
        clear hgrow hown1 hown2 hown hseen
        go_wp2
        go_roundw
        case rel => exact ⟨pre ++ [ld], n + 1, p + f, HN2.out, by go_num, by omega, HST.out, hown3, hb2⟩
        case measure => simp [intOf]; omega
    · have hf : FP.fst ((bytesOf s).drop p) = 0 := FP.fst_short (by rw [List.length_drop, bytesOf_length]; omega)
      have HF := Lib.hid hf
      clear hf
      go_wp2
      go_ret2
      exact HFIN.out HF.out _ (Below.refl _ _)

end Go.Proofs.YtpppeadmhfggkaaGreatDoor

namespace Go.Proofs.YtpppeadmhfggkaaGreatDoor
open Go.RowKit

/-- The frame's first four bytes. -/
def lead (n : Nat) : List UInt8 := [UInt8.ofNat (n % 256), UInt8.ofNat (n / 256 % 256), 0, 0]
theorem enc_lead (x : List UInt8) : FP.enc x = lead x.length ++ x := rfl
theorem cells_lead {n : Nat} (h : n ≤ 1024) : cells (lead n) = [.int .u8 ((n : Int) % 256), .int .u8 ((n : Int) / 256), .int .u8 0, .int .u8 0] := by
  have h1 : (UInt8.ofNat (n % 256)).toNat = n % 256 := FP.toNat_ofNat (by omega)
  have h2 : (UInt8.ofNat (n / 256 % 256)).toNat = n / 256 % 256 := FP.toNat_ofNat (by omega)
  simp only [cells, lead, List.map_cons, List.map_nil, h1, h2]
  have h3 : n / 256 % 256 = n / 256 := by omega
  rw [h3]
  rfl
theorem lead_seen {w : World} {g T n : Nat} (h : Var w g T (four ((n : Int) % 256) ((n : Int) / 256) 0 0)) (hn : n ≤ 1024) : Seen w w.heap.size (some ⟨g, 0, none⟩) (cells (lead n)) := fun _ =>
  ⟨g, 0, rfl, h.lt, fun j u hu => by
    rw [Nat.zero_add, cells_lead hn] at *
    exact h.cell j (by rw [← hu]; simp [four])⟩

theorem bytes_no (s : ByteArray) (w : World) (h : 1024 < s.size) (hm : s.size ≤ 140737488351232) : Calls Tryz.prog 68 #[.string s] w fun e w' => e = .returned (.tuple #[.string ByteArray.empty, .int .i64 2]) ∧ w = w' := by
  go_enter Tryz.func68, Tryz.ntmps68
  go_wp2_with fail
  refine (size_no _ _ (.inr (by omega))).mono ?_
  rintro e w1 ⟨rfl, rfl⟩
  go_wp2
  go_ret2
  exact ⟨rfl, rfl⟩

set_option maxRecDepth 100000 in
set_option maxHeartbeats 400000 in
theorem bytes_yes (s : ByteArray) (w : World) (h : s.size ≤ 1024) : Calls Tryz.prog 68 #[.string s] w fun e w' => e = .returned (.tuple #[.string (str (FP.enc (bytesOf s))), .int .i64 0]) ∧ Below w.heap.size w w' := by
  obtain ⟨n, hn⟩ : ∃ n, n = s.size := ⟨_, rfl⟩
  have hz : n + 4 ≠ 0 := by omega
  go_enter Tryz.func68, Tryz.ntmps68
  go_wp2_with fail
  refine (size_yes s.size _ h).mono ?_
  rintro e w1 ⟨rfl, rfl⟩
  go_wp2_with fail
  refine (lengthOf_yes s.size _ h).mono ?_
  rintro e w1 ⟨rfl, hb⟩
  unfold four
  have hv : Var (w1.alloc (.cells (four ((s.size : Int) % 256) ((s.size : Int) / 256) 0 0) 141)) w1.heap.size 141 (four ((s.size : Int) % 256) ((s.size : Int) / 256) 0 0) := Var.new w1 _ _
  have hb2 : Below w.heap.size w (w1.alloc (.cells (four ((s.size : Int) % 256) ((s.size : Int) / 256) 0 0) 141)) := hb.alloc hb.size _
  have hst := run_str (P := Tryz.prog) (lead_seen hv h) 99 9 5 4 Tryz.underlying99 Tryz.underlying5 Tryz.underlying9
  have hll : (lead s.size).length = 4 := rfl
  rw [hll] at hst
  unfold four at hst
  go_wp2_with fail
  go_ret2
  refine ⟨?_, hb2⟩
  rw [enc_lead, str_append, str_bytesOf, bytesOf_length]
  rfl

theorem rbytes_no (s : ByteArray) (w : World) (h : 1024 < s.size) (hm : s.size ≤ 140737488351232) : Calls Tryz.prog 52 #[.string s] w fun e w' => e = .returned (.tuple #[.string ByteArray.empty, .int .i64 2]) ∧ w = w' := by
  have hd : decide ((1024 : Int) < s.size) = true := by simp; omega
  go_enter Tryz.func52, Tryz.ntmps52
  go_wp2
  go_ret2
  exact ⟨rfl, rfl⟩

theorem low255 (a : Nat) (ha : a < 9223372036854775808) : bits .and .i64 (a : Int) 255 = (a : Int) % 256 := by
  have h := and_i64 a 255 ha (by omega)
  rw [show a &&& 255 = a % 256 from Nat.and_two_pow_sub_one_eq_mod a 8] at h
  rw [show ((255 : Nat) : Int) = 255 from rfl] at h
  rw [h]; omega
set_option maxRecDepth 100000 in
set_option maxHeartbeats 400000 in
theorem rbytes_yes (s : ByteArray) (w : World) (h : s.size ≤ 1024) : Calls Tryz.prog 52 #[.string s] w fun e w' => e = .returned (.tuple #[.string (str (FP.enc (bytesOf s))), .int .i64 0]) ∧ Below w.heap.size w w' := by
  have hv : Var (w.alloc (.cells (four ((s.size : Int) % 256) ((s.size : Int) / 256) 0 0) 5)) w.heap.size 5 (four ((s.size : Int) % 256) ((s.size : Int) / 256) 0 0) := Var.new w _ _
  have hb2 : Below w.heap.size w (w.alloc (.cells (four ((s.size : Int) % 256) ((s.size : Int) / 256) 0 0) 5)) := (Below.refl _ _).alloc (Nat.le_refl _) _
  have hst := run_str (P := Tryz.prog) (lead_seen hv h) 99 9 5 4 Tryz.underlying99 Tryz.underlying5 Tryz.underlying9
  have hll : (lead s.size).length = 4 := rfl
  rw [hll] at hst
  unfold four at hst
  have hl := low255 s.size (by omega)
  have hl2 : bits .and .i64 ((s.size : Int) / 256) 255 = (s.size : Int) / 256 := by
    have := low255 (s.size / 256) (by omega)
    rw [show ((s.size / 256 : Nat) : Int) = (s.size : Int) / 256 by omega] at this
    rw [this]; omega
  have hd : decide ((1024 : Int) < s.size) = false := by simp; omega
  go_enter Tryz.func52, Tryz.ntmps52
  go_wp2
  go_ret2
  refine ⟨?_, hb2⟩
  rw [enc_lead, str_append, str_bytesOf, bytesOf_length]
  rfl
end Go.Proofs.YtpppeadmhfggkaaGreatDoor

namespace Go.Proofs.YtpppeadmhfggkaaGreatDoor
open Go.RowKit

section
variable {H : Type} {enc : TypeId × Value → H} {w : World} {base : Nat} {spare : Nat → Bool} {held : Bool} {fuel : Nat} {a : Option Addr} {len cap : Nat}

theorem strs_in {x : DataW H × List MemPlace} (h : DataW.trod enc Tryz.prog w base spare held fuel 40 [.slice a len cap] = some x) :
    ∃ ls : List (List UInt8), len = ls.length ∧ Seen w w.heap.size a (strs ls) ∧ (∀ l ∈ ls, l.length ≤ maxLen) ∧ len ≤ cap ∧ cap ≤ maxLen := by
  have hC : Tryz.prog.cellsOf 9 = 1 := by kernel_rfl
  rcases Deep.open_slice1 Tryz.underlying40 hC h with ⟨hcs, _⟩ | ⟨ad, l, c, m, n, V, D, Pl, hcs, _, hl, hc, hm, _, hi⟩
  · simp at hcs
    obtain ⟨rfl, rfl, rfl⟩ := hcs
    exact ⟨[], rfl, Seen.nil _ _ _, by simp, Nat.le_refl _, Nat.zero_le _⟩
  · simp at hcs
    obtain ⟨rfl, rfl, rfl⟩ := hcs
    have hq : ∀ i, ∃ q : ByteArray, i < len → w.cell? (ad.add i) = some (.string q) ∧ q.size ≤ maxLen := fun i => by
      by_cases hil : i < len
      · obtain ⟨h1, h2⟩ := hi i (by rw [hm]; split <;> omega)
        obtain ⟨q, e2, _, hq⟩ := DataW.trod_string Tryz.underlying9 h2
        simp only [List.cons.injEq, and_true] at e2
        exact ⟨q, fun _ => ⟨by rw [h1, e2], hq⟩⟩
      · exact ⟨ByteArray.empty, fun h => absurd h hil⟩
    obtain ⟨f, hf⟩ := Classical.axiomOfChoice hq
    refine ⟨(List.range len).map fun i => bytesOf (f i), by simp, fun hx => ?_, fun l hl => ?_, hl, hc⟩
    · have h0 : 0 < len := by
        rcases Nat.eq_zero_or_pos len with rfl | h0
        · exact absurd (by simp [strs]) hx
        · exact h0
      obtain ⟨b, off, spot⟩ := ad
      have hc0 := (hf 0 h0).1
      have hspot : spot = none := by simpa [Addr.add] using World.cell?_spot hc0
      subst hspot
      refine ⟨b, off, rfl, by have := World.block_lt_of_cell? w _ hc0; rwa [plain_add] at this, fun j u hu => ?_⟩
      rcases Nat.lt_or_ge j len with hj | hj
      · have hcj := (hf j hj).1
        rw [plain_add] at hcj
        rw [hcj]
        simp [strs, hj, str_bytesOf] at hu
        rw [hu]
      · rw [List.getElem?_eq_none (by simp [strs]; omega)] at hu
        cases hu
    · simp only [List.mem_map, List.mem_range] at hl
      obtain ⟨i, hi, rfl⟩ := hl
      rw [bytesOf_length]
      exact (hf i hi).2

theorem strs_reach {d : DataW H} {p : List MemPlace} (h : DataW.trod enc Tryz.prog w base spare held fuel 40 [.slice a len cap] = some (d, p)) {ts : List TypeId} {ds : List (DataW H)} {j : Nat}
    (hsz : (DataW.weightsEach Tryz.prog ts ds).all (· ≤ reachBytes) = true) (ht : ts[j]? = some 40) (hd : ds[j]? = some d) : len ≤ 140737488351232 := by
  have hC : Tryz.prog.cellsOf 9 = 1 := by kernel_rfl
  rcases Deep.open_slice1 Tryz.underlying40 hC h with ⟨hcs, _⟩ | ⟨ad, l, c, m, n, V, D, Pl, hcs, _, hl, hc, hm, hx, hi⟩
  · simp at hcs; omega
  · simp at hcs
    obtain ⟨rfl, rfl, rfl⟩ := hcs
    injection hx with hx1 _
    subst hx1
    have hh := sized_slice hsz ht hd Tryz.underlying40
    have hby : Tryz.prog.bytesOf 9 = 16 := by kernel_rfl
    have hv : reachBytes = 140737488351232 := rfl
    rw [hby] at hh
    simp at hh
    omega
end
end Go.Proofs.YtpppeadmhfggkaaGreatDoor
