/-
  Contracts of file's Loads and of the reference's: what each returns and what it does to memory. Conditions: those that each theorem names.
-/
import Derived.Test.YtpppeadmhfggkaaGreatDoorFilG3
import Derived.Test.YtpppeadmhfggkaaGreatDoorFilG5
import Derived.Test.YtpppeadmhfggkaaGreatDoorDskDo
import Derived.Test.YtpppeadmhfggkaaGreatDoorDskRefGet
namespace Go.Proofs.YtpppeadmhfggkaaGreatDoor
open Go.RowKit DP

/-- Loads and how many bytes are torn, handed back. -/
def LoadsRes (ls : List (List UInt8)) (t : Nat) (w : World) (e : Ending) (w' : World) : Prop :=
  ∃ A n c, e = .returned (.tuple #[.slice A n c, .int .i64 (t : Int)]) ∧ ls.length = n ∧ Seen w' w'.heap.size A (strs ls) ∧ n ≤ c ∧ Below w.heap.size w w'

theorem bytesIn_res {fs : List Fl} {cap left : Int} {down : Bool} {name fn fb : ByteArray} {s : Int} {th : Bool} (h : GetRes fs name fn fb s th) : bytesIn ⟨fs, cap, left, down⟩ name = fb := by
  unfold bytesIn
  rw [h.getD]
theorem nil_none : FP.rows (bytesOf { data := #[] }) = [] ∧ FP.torn (bytesOf { data := #[] }) = 0 := ⟨FP.rows_nil, FP.torn_nil⟩

set_option maxRecDepth 100000 in
set_option maxHeartbeats 400000 in
theorem floads_any (A : Option Addr) (n c B : Nat) (fs : List Fl) (cap left : Int) (down : Bool) (name : ByteArray) (w : World) (hn : fs.length = n) (hs : Seen w B A (fcells fs)) (hB : B ≤ w.heap.size) (hsm : Small fs) :
    Calls Tryz.prog 19 #[.agg #[.slice A n c, .int .i64 cap, .int .i64 left, .bool down], .string name] w (LoadsRes (rowsIn ⟨fs, cap, left, down⟩ name) (tornIn ⟨fs, cap, left, down⟩ name) w) := by
  have hsz := mild_bytes (d := ⟨fs, cap, left, false⟩) (name := name)
  obtain ⟨fn, fb, s, th, hg⟩ := getRes_of fs name
  have hfb := bytesIn_res (cap := cap) (left := left) (down := down) hg
  have hle : fb.size ≤ 1000000 := by rw [← hfb]; have := get_small hsm name; unfold bytesIn; simp only; omega
  have h100 : n ≤ 100 := by rw [← hn]; exact hsm.1
  unfold rowsIn tornIn
  rw [hfb]
  obtain ⟨ls, hls⟩ : ∃ ls, ls = FP.rows (bytesOf fb) := ⟨_, rfl⟩
  obtain ⟨t, ht⟩ : ∃ t, t = FP.torn (bytesOf fb) := ⟨_, rfl⟩
  have ha := fun W => all_any fb hle W
  rw [← hls, ← ht] at ha ⊢
  have HA := Lib.hid ha
  clear ha hls ht hfb
  have HN := Lib.hid hn
  clear hn
  go_enter Tryz.func19, Tryz.ntmps19
  go_wp2_with fail
  have hb0 := bel1 w #[.slice A n c, .int .i64 cap, .int .i64 left, .bool down] 24
  refine (get_any A n c B fs cap left down name fn fb s th _ hg HN.out (hs.below (hb0.mono hB)) (by simp; omega) h100).mono ?_
  rintro e w1 ⟨rfl, hb1⟩
  have hb2 := hb0.trans (hb1.mono (by simp))
  have hz2 := hb2.size
  go_wp2_with fail
  refine (HA.out _).mono ?_
  rintro e w2 ⟨A2, c2, rfl, hs2, hc2, hb3⟩
  obtain ⟨k, hk⟩ : ∃ k, k = ls.length := ⟨_, rfl⟩
  rw [← hk] at hc2 ⊢
  have HK := Lib.hid hk
  clear hk
  go_wp2
  go_ret2
  refine ⟨A2, k, c2, rfl, HK.out.symm, hs2, hc2, ?_⟩
  exact (hb2.alloc hz2 _).trans (hb3.mono (by simp; omega))

set_option maxRecDepth 100000 in
set_option maxHeartbeats 400000 in
theorem rfloads_any (A : Option Addr) (n c B : Nat) (fs : List Fl) (cap left : Int) (down : Bool) (name : ByteArray) (w : World) (hn : fs.length = n) (hs : Seen w B A (fcells fs)) (hB : B ≤ w.heap.size) (hsm : Small fs) :
    Calls Tryz.prog 32 #[.agg #[.slice A n c, .int .i64 cap, .int .i64 left, .bool down], .string name] w (LoadsRes (rowsIn ⟨fs, cap, left, down⟩ name) (tornIn ⟨fs, cap, left, down⟩ name) w) := by
  obtain ⟨fn, fb, s, th, hg⟩ := getRes_of fs name
  have hfb := bytesIn_res (cap := cap) (left := left) (down := down) hg
  have hle : fb.size ≤ 1000000 := by rw [← hfb]; have := get_small hsm name; unfold bytesIn; simp only; omega
  have h100 : n ≤ 100 := by rw [← hn]; exact hsm.1
  unfold rowsIn tornIn
  rw [hfb]
  have HN := Lib.hid hn
  clear hn hfb
  have hb0 := bel1 w #[.slice A n c, .int .i64 cap, .int .i64 left, .bool down] 24
  cases th with
  | false =>
    obtain ⟨_, hg', rfl, rfl, rfl⟩ : false = false ∧ get fs name = none ∧ fn = { data := #[] } ∧ fb = { data := #[] } ∧ s = 0 := by
      rcases hg with ⟨h, _⟩ | ⟨h1, h2, h3, h4, h5⟩
      · cases h
      · exact ⟨rfl, h2, h3, h4, h5⟩
    rw [nil_none.1, nil_none.2]
    go_enter Tryz.func32, Tryz.ntmps32
    go_wp2_with fail
    refine (ref_get_any A n c B fs cap left down name { data := #[] } { data := #[] } 0 false _ (.inr ⟨rfl, hg', rfl, rfl, rfl⟩) HN.out (hs.below (hb0.mono hB)) (by simp; omega) h100).mono ?_
    rintro e w1 ⟨rfl, hb1⟩
    have hb2 := hb0.trans (hb1.mono (by simp))
    have hz2 := hb2.size
    go_wp2
    go_ret2
    exact ⟨none, 0, 0, rfl, rfl, Seen.nil _ _ _, Nat.le_refl _, hb2.alloc hz2 _⟩
  | true =>
    obtain ⟨ls, hls⟩ : ∃ ls, ls = FP.rows (bytesOf fb) := ⟨_, rfl⟩
    obtain ⟨t, ht⟩ : ∃ t, t = FP.torn (bytesOf fb) := ⟨_, rfl⟩
    have ha := fun W => rall_any fb hle W
    rw [← hls, ← ht] at ha ⊢
    have HA := Lib.hid ha
    clear ha hls ht
    go_enter Tryz.func32, Tryz.ntmps32
    go_wp2_with fail
    refine (ref_get_any A n c B fs cap left down name fn fb s true _ hg HN.out (hs.below (hb0.mono hB)) (by simp; omega) h100).mono ?_
    rintro e w1 ⟨rfl, hb1⟩
    have hb2 := hb0.trans (hb1.mono (by simp))
    have hz2 := hb2.size
    go_wp2_with fail
    refine (HA.out _).mono ?_
    rintro e w2 ⟨A2, c2, rfl, hs2, hc2, hb3⟩
    obtain ⟨k, hk⟩ : ∃ k, k = ls.length := ⟨_, rfl⟩
    rw [← hk] at hc2 ⊢
    have HK := Lib.hid hk
    clear hk
    go_wp2
    go_ret2
    refine ⟨A2, k, c2, rfl, HK.out.symm, hs2, hc2, ?_⟩
    exact (hb2.alloc hz2 _).trans (hb3.mono (by simp; omega))
end Go.Proofs.YtpppeadmhfggkaaGreatDoor
