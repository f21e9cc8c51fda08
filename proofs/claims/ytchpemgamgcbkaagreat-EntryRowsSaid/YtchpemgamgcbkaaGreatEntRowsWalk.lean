/-
  The walk over EntryRows: it returns true and turns nothing that was there. Conditions: what is said of the arguments.
-/
import Derived.Test.YtchpemgamgcbkaaGreatEntWakes
import Derived.Test.YtchpemgamgcbkaaGreatEntEach
import Derived.Test.YtchpemgamgcbkaaGreatEntEachR
import Derived.Test.YtchpemgamgcbkaaGreatEntRowAll
import Derived.Test.YtchpemgamgcbkaaGreatEntRowIn
namespace Go.Proofs.YtchpemgamgcbkaaGreat
open Go.RowKit

theorem bytes_choose : ∃ f : En → ByteArray × Int, ∀ x, EBytesIs x (f x).1 (f x).2 := by
  have h : ∀ x, ∃ p : ByteArray × Int, EBytesIs x p.1 p.2 := fun x => by
    obtain ⟨s, er, h⟩ := eBytesIs_of x
    exact ⟨(s, er), h⟩
  exact ⟨fun x => (h x).choose, fun x => (h x).choose_spec⟩
theorem read_choose : ∃ f : ByteArray → En × Int, ∀ s, EReadIs s (f s).1 (f s).2 := by
  have h : ∀ s, ∃ p : En × Int, EReadIs s p.1 p.2 := fun s => by
    obtain ⟨x, er, h⟩ := eReadIs_of s
    exact ⟨(x, er), h⟩
  exact ⟨fun s => (h s).choose, fun s => (h s).choose_spec⟩

set_option maxRecDepth 100000 in
set_option maxHeartbeats 2000000 in
theorem rows_walk (A : Option Addr) (n c : Nat) (A' : Option Addr) (n' c' : Nat) (w : World) (hm : n ≤ maxLen) (hl : ∃ l : List EX, EsIn w w.heap.size l A n) (hm' : n' ≤ maxLen) (ht : ∃ ls : List ByteArray, ls.length = n' ∧ Seen w w.heap.size A' (tcells ls) ∧ ∀ s ∈ ls, s.size ≤ maxLen) :
    Calls Tryz.prog 5 #[.slice A n c, .slice A' n' c'] w fun e w' => e = .returned (.bool true) ∧ Below w.heap.size w w' := by
  have hml : maxLen ≤ 9223372036854775807 := by decide
  obtain ⟨l, hl⟩ := hl
  obtain ⟨ls, hn', hs, hz⟩ := ht
  have HL := Lib.hid hl
  have HN := Lib.hid hn'
  have HZ := Lib.hid hz
  clear hl hn' hz
  go_enter Tryz.func5, Tryz.ntmps5
  go_wp2_with fail
  refine (great_all_any l A n c _ w HL.out (Nat.le_refl _) (by omega)).mono ?_
  rintro e W1 ⟨g, rfl, b1, h200⟩
  cases g with
  | true =>
    go_wp2_with fail
    refine (wakes_any _).mono ?_
    rintro e w9 ⟨rfl, hb⟩
    have bf := b1.trans (hb.mono b1.size)
    go_wp2
    go_ret
    exact ⟨rfl, bf⟩
  | false =>
    have h200n : n ≤ 200 := h200 rfl
    clear h200
    by_cases h2 : 200 < n'
    · have t1 : decide ((200 : Int) < (n' : Int)) = true := by simp; omega
      have hmx : n' ≤ 9223372036854775807 := by omega
      go_wp2_with fail
      refine (wakes_any _).mono ?_
      rintro e w9 ⟨rfl, hb⟩
      have bf := b1.trans (hb.mono b1.size)
      go_wp2
      go_ret
      exact ⟨rfl, bf⟩
    have t1 : decide ((200 : Int) < (n' : Int)) = false := bool_dec _ (by omega)
    have hmx : n' ≤ 9223372036854775807 := by omega
    go_wp2_with fail
    go_loopw [25] (fun i wr => ∃ k : Nat, k ≤ n' ∧ i = .int .i64 k ∧ Below w.heap.size w wr ∧ Hid (∀ s ∈ ls.take k, s.size ≤ 2000)) (fun i _ => n' - (intOf i).toNat)
    case atStart => exact ⟨0, by omega, rfl, b1, by show ∀ s ∈ _, _; simp⟩
    case round =>
      clear b1
      obtain ⟨k, hk, rfl, hb, HK⟩ := hrel
      by_cases hlt : k < n'
      · obtain ⟨s, hr⟩ := tx_here HN.out hlt
        obtain ⟨b, off, rfl, hbb, hcell⟩ := tcells_at (hs.below hb) hr
        have hbw : b < wr.heap.size := by have := hb.size; omega
        have hsz := HZ.out s (List.mem_of_getElem? hr)
        have HR := Lib.hid hr
        clear hr
        by_cases h3 : 2000 < s.size
        · have t3 : decide ((2000 : Int) < (s.size : Int)) = true := by simp; omega
          have hsm : s.size ≤ 9223372036854775807 := by omega
          go_wp2_with fail
          refine (wakes_any _).mono ?_
          rintro e w9 ⟨rfl, hb9⟩
          have bf := hb.trans (hb9.mono hb.size)
          go_wp2
          go_ret
          exact ⟨rfl, bf⟩
        · have t3 : decide ((2000 : Int) < (s.size : Int)) = false := bool_dec _ (by omega)
          have hsm : s.size ≤ 9223372036854775807 := by omega
          have HK2 : Hid (∀ s ∈ ls.take (k + 1), s.size ≤ 2000) := row_taken HR.out HK.out (by omega)
          go_wp2
          go_roundw
          case rel => exact ⟨k + 1, by omega, by go_num, hb, HK2⟩
          case measure => simp [intOf]; omega
      · have htk : ls.take k = ls := List.take_of_length_le (by rw [HN.out]; omega)
        have HSZ : Hid (∀ s ∈ ls, s.size ≤ 2000) := by show ∀ s ∈ ls, _; have := HK.out; rw [htk] at this; exact this
        have h200' : n' ≤ 200 := by omega
        obtain ⟨f, hf⟩ := bytes_choose
        obtain ⟨r, hr⟩ := read_choose
        obtain ⟨out, er, ho⟩ := eachIs_of (fun e : EX => f e.x) 2 l
        obtain ⟨xs, fr, hx⟩ := eachIs_of r 70 ls
        have hol := ho.le
        have hxl := hx.le
        rw [HL.out.len] at hol
        rw [HN.out] at hxl
        have HF := Lib.hid hf
        have HRD := Lib.hid hr
        have HO := Lib.hid ho
        have HX := Lib.hid hx
        have y0 : (er == er) = true := beq_self_eq_true _
        have y1 : (fr == fr) = true := beq_self_eq_true _
        clear htk hf hr ho hx HK HZ
        go_wp2_with fail
        refine (loads_any f HF.out l A n c _ out er wr HO.out (HL.out.below hb) hb.size h200n).mono ?_
        rintro e W2 ⟨B1, d1, rfl, s1, b2⟩
        have bw2 := hb.trans (b2.mono hb.size)
        clear hb b2
        go_wp2_with fail
        refine (ref_loads_any f HF.out l A n c _ out er W2 HO.out (HL.out.below bw2) bw2.size h200n).mono ?_
        rintro e W3 ⟨B2, d2, rfl, s2, b3⟩
        have bw3 := bw2.trans (b3.mono bw2.size)
        have s1 := (s1.below b3).up b3.size
        clear bw2 b3
        go_wp2_with fail
        refine (all_any r HRD.out ls A' n' c' _ xs fr W3 HX.out HN.out (hs.below bw3) bw3.size h200' HSZ.out).mono ?_
        rintro e W4 ⟨o1, B3, d3, rfl, m1, i1, b4⟩
        have bw4 := bw3.trans (b4.mono bw3.size)
        have s1 := (s1.below b4).up b4.size
        have s2 := (s2.below b4).up b4.size
        clear bw3 b4
        go_wp2_with fail
        refine (ref_all_any r HRD.out ls A' n' c' _ xs fr W4 HX.out HN.out (hs.below bw4) bw4.size h200' HSZ.out).mono ?_
        rintro e W5 ⟨o2, B4, d4, rfl, m2, i2, b5⟩
        have bw5 := bw4.trans (b5.mono bw4.size)
        have s1 := (s1.below b5).up b5.size
        have s2 := (s2.below b5).up b5.size
        have i1 := (i1.below b5).up b5.size
        clear bw4 b5
        have HM : Hid (o1.map (·.x) = o2.map (·.x)) := by show _ = _; rw [m1, m2]
        have HOL : Hid (out.length = out.length) := rfl
        clear m1 m2
        obtain ⟨no, hno⟩ : ∃ no, no = out.length := ⟨_, rfl⟩
        obtain ⟨nx, hnx⟩ : ∃ no, no = xs.length := ⟨_, rfl⟩
        rw [← hno] at hol ⊢
        rw [← hnx] at hxl i1 i2 ⊢
        have HNO := Lib.hid hno
        clear hno hnx HOL
        go_wp2_with fail
        refine (texts_same out B1 B2 no d1 d2 W5 HNO.out.symm s1 s2 (by omega)).mono ?_
        rintro e W6 ⟨rfl, b6⟩
        have bw6 := bw5.trans (b6.mono bw5.size)
        have i1 := (i1.below b6).up b6.size
        have i2 := (i2.below b6).up b6.size
        clear s1 s2 bw5 b6
        go_wp2_with fail
        refine (same_alls o1 o2 B3 B4 nx d3 d4 _ W6 i1 i2 (Nat.le_refl _) HM.out (by omega)).mono ?_
        rintro e W7 ⟨rfl, b7⟩
        have bw7 := bw6.trans (b7.mono bw6.size)
        clear i1 i2 bw6 b7
        go_wp2_with fail
        refine (wakes_any _).mono ?_
        rintro e w9 ⟨rfl, hb9⟩
        have bf := bw7.trans (hb9.mono bw7.size)
        go_wp2
        go_ret
        exact ⟨rfl, bf⟩
end Go.Proofs.YtchpemgamgcbkaaGreat
