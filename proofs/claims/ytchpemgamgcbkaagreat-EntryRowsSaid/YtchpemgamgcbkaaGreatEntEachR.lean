/-
  Contracts of the document's Loads and All. Conditions: those that each theorem names.
-/
import Derived.Test.YtchpemgamgcbkaaGreatEntRowMem
import Derived.Test.YtchpemgamgcbkaaGreatEntBytesR
import Derived.Test.YtchpemgamgcbkaaGreatEntReadR
import Derived.Great.Walk
namespace Go.Proofs.YtchpemgamgcbkaaGreat
open Go.RowKit

set_option maxRecDepth 100000 in
set_option maxHeartbeats 2000000 in
theorem ref_loads_any (f : En → ByteArray × Int) (hf : ∀ x, EBytesIs x (f x).1 (f x).2) (l : List EX) (A : Option Addr) (n c B : Nat) (out : List ByteArray) (er : Int) (w : World) (h : EachIs (fun e : EX => f e.x) 2 l out er) (hl : EsIn w B l A n) (hB : B ≤ w.heap.size) (h200 : n ≤ 200) :
    Calls Tryz.prog 22 #[.slice A n c] w fun e w' => ∃ A' c', e = .returned (.tuple #[.slice A' out.length c', .int .i64 er]) ∧ Seen w' w'.heap.size A' (tcells out) ∧ Below w.heap.size w w' := by
  have H := Lib.hid h
  have HF := Lib.hid hf
  have HL := Lib.hid hl
  clear h hf hl
  have y0 : ((0 : Int) != 0) = false := by decide
  have y2 : ((2 : Int) != 0) = true := by decide
  go_enter Tryz.func22, Tryz.ntmps22
  go_wp2_with fail
  go_loopw [4, 5] (fun sv i wr => ∃ (k : Nat) (A1 : Option Addr) (c1 : Nat) (done : List ByteArray), k ≤ n ∧ i = .int .i64 k ∧ sv = .slice A1 k c1 ∧ wr.ownsRow w.heap.size 9 1 (.slice A1 k c1) k (tcells done) ∧ Below w.heap.size w wr ∧ Hid (done = (l.take k).map (fun e => (f e.x).1)) ∧ Hid (∀ e ∈ l.take k, (f e.x).2 = 0)) (fun _ i _ => n - (intOf i).toNat)
  case atStart => exact ⟨0, none, 0, [], by omega, rfl, rfl, World.ownsRow_nil _ _ _ _, Below.refl _ _, by show _ = _; simp, by show ∀ e ∈ _, _; simp⟩
  case round =>
    obtain ⟨k, A1, c1, done, hk, rfl, rfl, hown, hb, HD, HZ⟩ := hrel
    by_cases hlt : k < n
    · obtain ⟨r, hr⟩ := ex_here HL.out.len hlt
      have HR := Lib.hid hr
      obtain ⟨b, off, rfl, hbb, hcell⟩ := ex_at (HL.out.seen.below (hb.mono hB)) hr
      have hin := EIn.below (HL.out.each r (List.mem_of_getElem? hr)) (hb.mono hB)
      have hbw : b < wr.heap.size := by have := hb.size; omega
      have hfr := HF.out r.x
      obtain ⟨s, hs⟩ : ∃ s, s = (f r.x).1 := ⟨_, rfl⟩
      obtain ⟨ee, hee⟩ : ∃ s, s = (f r.x).2 := ⟨_, rfl⟩
      rw [← hs, ← hee] at hfr
      have hor := ebytes_er hfr
      have HFR := Lib.hid hfr
      have HS := Lib.hid hs
      have HEE := Lib.hid hee
      clear hr hs hee hfr
      go_wp2_with (refine wpList_load_mid rfl _ _ rfl b (off + k * 18) rfl (ecell r) _ hcell Tryz.underlying32 rfl (by kernel_rfl) ?_)
      have hin2 := hin
      have hown2 := hown
      have hbw2 := hb
      have hB2 : B ≤ wr.heap.size := by have := hb.size; omega
      clear hown hb hin hcell
      refine (show Calls _ _ #[.agg (ecell r).toArray] _ _ from ref_ebytes_all r.x r.A r.D r.n r.c r.m r.d _ s ee wr HFR.out hin2 hB2).mono ?_
      rintro e W3 ⟨rfl, hb3⟩
      have hown3 := own_next hown2 hb3
      have bw3 := hbw2.trans (hb3.mono hbw2.size)
      clear hown2 hbw2 hb3 hin2 hB2 HFR
      rcases hor with rfl | rfl
      · have hown4 := own_next hown3 (below_new (w := W3) (.cells #[.string s] 9))
        have hseen := Seen.new W3 [.string s] 9
        go_wp2_with (at_builtin; refine wpList_append_one rfl (.tmp 25) (.tmp 27) rfl Tryz.underlying46 str_info0 rfl (by omega) (by omega) (base := w.heap.size) (n := k) (c := 1) (B := W3.heap.size + 1) (v := .slice A1 k c1) (xs := tcells done) (news := [.string s]) (A := some ⟨W3.heap.size, 0, none⟩) rfl rfl hown4 rfl (by simp [Value.oneCell']) hseen (by have := bw3.size; simp; omega) (by omega) ?_; intro A9 c9 W9 hown9 hb9)
        have bw9 := (bw3.alloc bw3.size (.cells #[.string s] 9)).trans hb9
        have hown10 : W9.ownsRow w.heap.size 9 1 (.slice A9 (k + 1) c9) (k + 1) (tcells (done ++ [s])) := by simpa [tcells] using hown9
        have HD2 : Hid (done ++ [s] = (l.take (k + 1)).map (fun e => (f e.x).1)) := by show _ = _; rw [take_map _ HR.out, HD.out, HS.out]
        have HZ2 : Hid (∀ e ∈ l.take (k + 1), (f e.x).2 = 0) := row_taken HR.out HZ.out HEE.out.symm
        clear hown4 hseen hown9 hb9 hown3 bw3
        go_wp2
        go_roundw
        case rel => exact ⟨k + 1, A9, c9, _, by omega, by go_num, rfl, hown10, bw9, HD2, HZ2⟩
        case measure => simp [intOf]; omega
      · obtain ⟨ho, he⟩ := H.out.one (List.mem_of_getElem? HR.out) (by show (f r.x).2 ≠ 0; rw [← HEE.out]; decide)
        subst ho he
        clear hown3
        go_wp2
        go_ret2
        exact ⟨none, 0, rfl, Seen.nil _ _ _, bw3⟩
    · have hkn : k = n := by omega
      subst hkn
      have htk : l.take k = l := List.take_of_length_le (by rw [HL.out.len]; exact Nat.le_refl _)
      obtain ⟨ho, he⟩ := H.out.all (by have := HZ.out; rw [htk] at this; exact this)
      have hd := HD.out
      rw [htk] at hd
      have hlo : out.length = k := by rw [ho, List.length_map, HL.out.len]
      have HO : Hid (done = out) := by show _ = _; rw [hd, ho]
      have HLO := Lib.hid hlo
      subst he
      clear ho hd htk hlo
      go_wp2
      go_ret2
      exact ⟨A1, c1, by rw [HLO.out]; rfl, by rw [← HO.out]; exact seen_own hown, hb⟩

set_option maxRecDepth 100000 in
set_option maxHeartbeats 2000000 in
theorem ref_all_any (f : ByteArray → En × Int) (hf : ∀ s, EReadIs s (f s).1 (f s).2) (l : List ByteArray) (A : Option Addr) (n c B : Nat) (xs : List En) (er : Int) (w : World) (h : EachIs f 70 l xs er) (hn : l.length = n) (hs : Seen w B A (tcells l)) (hB : B ≤ w.heap.size) (h200 : n ≤ 200) (hsz : ∀ s ∈ l, s.size ≤ 2000) :
    Calls Tryz.prog 24 #[.slice A n c] w fun e w' => ∃ (out : List EX) (A' : Option Addr) (c' : Nat), e = .returned (.tuple #[.slice A' xs.length c', .int .i64 er]) ∧ out.map (·.x) = xs ∧ EsIn w' w'.heap.size out A' xs.length ∧ Below w.heap.size w w' := by
  have H := Lib.hid h
  have HF := Lib.hid hf
  have HN := Lib.hid hn
  have HSZ := Lib.hid hsz
  clear h hf hn hsz
  have y0 : ((0 : Int) != 0) = false := by decide
  have y2 : ((70 : Int) != 0) = true := by decide
  go_enter Tryz.func24, Tryz.ntmps24
  go_wp2_with fail
  go_loopw [4, 5] (fun sv i wr => ∃ (k : Nat) (A1 : Option Addr) (c1 : Nat) (done : List EX), k ≤ n ∧ i = .int .i64 k ∧ sv = .slice A1 k c1 ∧ wr.ownsRow w.heap.size 32 18 (.slice A1 k c1) k (ecells done) ∧ Below w.heap.size w wr ∧ Hid (done.map (·.x) = (l.take k).map (fun s => (f s).1)) ∧ Hid (∀ s ∈ l.take k, (f s).2 = 0) ∧ Hid (∀ e ∈ done, e.Own wr w.heap.size)) (fun _ i _ => n - (intOf i).toNat)
  case atStart => exact ⟨0, none, 0, [], by omega, rfl, rfl, World.ownsRow_nil _ _ _ _, Below.refl _ _, by show _ = _; simp, by show ∀ e ∈ _, _; simp, by show ∀ e ∈ _, _; simp⟩
  case round =>
    obtain ⟨k, A1, c1, done, hk, rfl, rfl, hown, hb, HD, HZ, HI⟩ := hrel
    by_cases hlt : k < n
    · obtain ⟨s, hr⟩ := tx_here HN.out hlt
      have HR := Lib.hid hr
      obtain ⟨b, off, rfl, hbb, hcell⟩ := tcells_at (hs.below (hb.mono hB)) hr
      have hbw : b < wr.heap.size := by have := hb.size; omega
      have hssz := HSZ.out s (List.mem_of_getElem? hr)
      have hfr := HF.out s
      obtain ⟨x, hx⟩ : ∃ x, x = (f s).1 := ⟨_, rfl⟩
      obtain ⟨ee, hee⟩ : ∃ s', s' = (f s).2 := ⟨_, rfl⟩
      rw [← hx, ← hee] at hfr
      have hor := eread_er hfr
      have HFR := Lib.hid hfr
      have HX := Lib.hid hx
      have HEE := Lib.hid hee
      clear hr hx hee hfr
      go_wp2_with fail
      refine (ref_eread_own s x ee wr HFR.out (by omega)).mono ?_
      rintro e W3 ⟨A3, n3, c3, D3, m3, d3, rfl, i3, hb3⟩
      have hown3 := own_next hown hb3
      have bw3 := hb.trans (hb3.mono hb.size)
      have HI3 : Hid (∀ e ∈ done, e.Own W3 w.heap.size) := fun e he => EOwn.next (HI.out e he) hb3
      have i3 := i3.down (B := w.heap.size) hb.size
      clear hown hb hb3 hcell HFR HI
      rcases hor with rfl | rfl
      · go_wp2_with (first | (refine wpList_store_var rfl _ _ rfl rfl rfl (Var.new W3 #[.int .i8 0, .int .i64 0, .int .i64 0, .int .i64 0, .bool false, .slice none 0 0, .bool false, .int .i64 0, .int .i64 0, .int .i64 0, .int .i64 0, .int .i64 0, .string ⟨#[]⟩, .string ⟨#[]⟩, .int .i64 0, .int .i64 0, .int .i64 0, .slice none 0 0] 32) rfl (by kernel_rfl) (by simp [Value.oneCell', evals]) ?_; intro W4 v4 o4; have hb4 := Only.below (below_new (w := W3) (.cells #[.int .i8 0, .int .i64 0, .int .i64 0, .int .i64 0, .bool false, .slice none 0 0, .bool false, .int .i64 0, .int .i64 0, .int .i64 0, .int .i64 0, .int .i64 0, .string ⟨#[]⟩, .string ⟨#[]⟩, .int .i64 0, .int .i64 0, .int .i64 0, .slice none 0 0] 32)) o4 (Nat.le_refl _)) | refine wpList_load_var rfl _ rfl Tryz.underlying32 rfl rfl v4 (by simp only [evals]; kernel_rfl) ?_ | (refine wpList_buildOne rfl 45 32 (.tmp 26) rfl Tryz.underlying45 (EX.vals ⟨x, A3, n3, c3, D3, m3, d3⟩) rfl (built_one _) ?_; refine wpList_at (C := fun W => Var W W4.heap.size 32 (ecell ⟨x, A3, n3, c3, D3, m3, d3⟩).toArray ∧ Below W4.heap.size W4 W) ⟨Var.new _ _ _, below_new _⟩ ?_; rintro W5 ⟨v5, hb5⟩) | (at_builtin; refine wpList_append_grown rfl (.tmp 25) (.tmp 27) rfl Tryz.underlying45 ent_info0 rfl (by omega) (by omega) (base := w.heap.size) (n := k) (c := 1) (B := W4.heap.size + 1) (v := .slice A1 k c1) (xs := ecells done) (news := ecell ⟨x, A3, n3, c3, D3, m3, d3⟩) (A := some ⟨W4.heap.size, 0, none⟩) rfl rfl (own_next (own_next hown3 hb4) hb5) rfl (ecells_one _) (seen_var v5) (by have := bw3.size; have := hb4.size; have := hb5.size; omega) (by omega) ?_; intro A9 c9 W9 hown9 hg9))
        have bb4 := bw3.trans (hb4.mono bw3.size)
        have bb5 := bb4.trans (hb5.mono bb4.size)
        have hrow := own_next (own_next hown3 hb4) hb5
        have bb9 := bb5.trans (grown_low hg9 bb5.size (fun g hg => (hrow.lt g hg).1))
        have hown10 : W9.ownsRow w.heap.size 32 18 (.slice A9 (k + 1) c9) (k + 1) (ecells (done ++ [⟨x, A3, n3, c3, D3, m3, d3⟩])) := by rw [ecells_append, ecells_single]; exact hown9
        have HI9 : Hid (∀ e ∈ done ++ [(⟨x, A3, n3, c3, D3, m3, d3⟩ : EX)], e.Own W9 w.heap.size) := by
          intro e he
          have hE : e.Own W3 w.heap.size := by
            rcases List.mem_append.1 he with he | he
            · exact HI3.out e he
            · rw [List.mem_singleton] at he
              subst he
              exact i3
          exact EOwn.grown (EOwn.next (EOwn.next hE hb4) hb5) hrow hg9
        have HD2 : Hid ((done ++ [(⟨x, A3, n3, c3, D3, m3, d3⟩ : EX)]).map (·.x) = (l.take (k + 1)).map (fun s => (f s).1)) := by show _ = _; rw [take_map _ HR.out, List.map_append, HD.out, ← HX.out]; rfl
        have HZ2 : Hid (∀ s ∈ l.take (k + 1), (f s).2 = 0) := row_taken HR.out HZ.out HEE.out.symm
        clear hown9 hg9 hrow hown3 bw3 bb4 bb5 hb4 hb5 v4 v5 o4 HI3 i3
        go_wp2
        go_roundw
        case rel => exact ⟨k + 1, A9, c9, _, by omega, by go_num, rfl, hown10, bb9, HD2, HZ2, HI9⟩
        case measure => simp [intOf]; omega
      · obtain ⟨ho, he⟩ := H.out.one (List.mem_of_getElem? HR.out) (by rw [← HEE.out]; decide)
        subst ho he
        clear hown3
        go_wp2_with (refine wpList_store_var rfl _ _ rfl rfl rfl (Var.new W3 #[.int .i8 0, .int .i64 0, .int .i64 0, .int .i64 0, .bool false, .slice none 0 0, .bool false, .int .i64 0, .int .i64 0, .int .i64 0, .int .i64 0, .int .i64 0, .string ⟨#[]⟩, .string ⟨#[]⟩, .int .i64 0, .int .i64 0, .int .i64 0, .slice none 0 0] 32) rfl (by kernel_rfl) (by simp [Value.oneCell', evals]) ?_; intro W4 v4 o4; have hb4 := Only.below (below_new (w := W3) (.cells #[.int .i8 0, .int .i64 0, .int .i64 0, .int .i64 0, .bool false, .slice none 0 0, .bool false, .int .i64 0, .int .i64 0, .int .i64 0, .int .i64 0, .int .i64 0, .string ⟨#[]⟩, .string ⟨#[]⟩, .int .i64 0, .int .i64 0, .int .i64 0, .slice none 0 0] 32)) o4 (Nat.le_refl _))
        go_ret2
        exact ⟨[], none, 0, rfl, rfl, ⟨rfl, Seen.nil _ _ _, fun e he => by cases he⟩, bw3.trans (hb4.mono bw3.size)⟩
    · have hkn : k = n := by omega
      subst hkn
      have htk : l.take k = l := List.take_of_length_le (by rw [HN.out]; exact Nat.le_refl _)
      obtain ⟨ho, he⟩ := H.out.all (by have := HZ.out; rw [htk] at this; exact this)
      have hd := HD.out
      rw [htk] at hd
      have hlo : xs.length = k := by rw [ho, List.length_map, HN.out]
      have HO : Hid (done.map (·.x) = xs) := by show _ = _; rw [hd, ho]
      have HLO := Lib.hid hlo
      subst he
      clear ho hd htk hlo
      go_wp2
      go_ret2
      exact ⟨done, A1, c1, by rw [HLO.out]; rfl, HO.out, ⟨by rw [← HO.out, List.length_map], seen_own hown, fun e he => EOwn.ein (HI.out e he)⟩, hb⟩
end Go.Proofs.YtchpemgamgcbkaaGreat
