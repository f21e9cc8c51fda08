/-
  Contracts of fields' Number: what it returns and what it does to memory. Conditions: those that each theorem names.
-/
import Derived.Test.YtchpemgamgcbkaaFldNum
import Derived.Conc.MuLone
namespace Go.Proofs.Ytchpemgamgcbkaa
open Go.RowKit

section
variable (br bl bm bn g : Nat) (s : ByteArray) (p : Nat) (lo hi v0 : Int) (w : World)
  (hvr : Var w br 59 #[.pointer (some ⟨g, 0, none⟩)]) (hvl : Var w bl 3 #[.int .i64 lo]) (hvm : Var w bm 3 #[.int .i64 hi]) (hvn : Var w bn 3 #[.int .i64 v0])
  (hr : Rd 81 w g s p false) (hp : p < s.size) (hx : s.size ≤ 1000000) (hng : g ≠ bn)
include hvr hvl hvm hvn hr hp hx hng

set_option maxRecDepth 100000 in
theorem number1_ok (n k bh : Nat) (hd : VP.dec ((bytesOf s).drop p) = some (n, k)) (hlo : lo ≤ n) (hhi : (n : Int) ≤ hi) (hbh : bh = p + k) :
    Calls Try.prog 42 #[.pointer (some ⟨br, 0, none⟩), .pointer (some ⟨bl, 0, none⟩), .pointer (some ⟨bm, 0, none⟩), .pointer (some ⟨bn, 0, none⟩)] w fun e w' =>
      e = .returned (.int .i64 (bh : Int)) ∧ Rd 81 w' g s p false ∧ Var w' bn 3 #[.int .i64 (n : Int)] ∧ Kept [bn] w w' := by
  have c1 : w.cell? ⟨br, 0, none⟩ = some (.pointer (some ⟨g, 0, none⟩)) := hvr.cell 0 rfl
  have c2 : w.cell? ⟨bl, 0, none⟩ = some (.int .i64 lo) := hvl.cell 0 rfl
  have c3 : w.cell? ⟨bm, 0, none⟩ = some (.int .i64 hi) := hvm.cell 0 rfl
  have HD := Lib.hid hd
  have HBH := Lib.hid hbh
  clear hd hbh
  go_enter Try.func42, Try.ntmps42
  go_wp2_with fail
  refine (number_yes g s p n k bh false lo hi _ hr hp hx HD.out hlo hhi HBH.out).mono ?_
  rintro e w1 ⟨rfl, hb⟩
  have hr1 : Rd 81 w1 g s p false := Var.below hr hb (Var.lt hr)
  have hv1 := hvn.below hb hvn.lt
  have d1 : w1.cell? ⟨bn, 0, none⟩ = some (.int .i64 v0) := hv1.cell 0 rfl
  have d2 := hv1.free 0
  have hr2 : Rd 81 (w1.setCell ⟨bn, 0, none⟩ (.int .i64 (n : Int))) g s p false := Var.other hr1 0 _ hng
  have hv2 : Var (w1.setCell ⟨bn, 0, none⟩ (.int .i64 (n : Int))) bn 3 #[.int .i64 (n : Int)] := hv1.set 0 _
  have hk2 : Kept [bn] w (w1.setCell ⟨bn, 0, none⟩ (.int .i64 (n : Int))) := (Kept.of_below hb).setCell (.inl (by simp)) _
  clear hr1 hv1
  go_wp2
  go_ret
  exact ⟨rfl, hr2, hv2, hk2⟩

omit hvn hng in
set_option maxRecDepth 100000 in
theorem number1_no (hd : VP.dec ((bytesOf s).drop p) = none ∨ ∃ n k, VP.dec ((bytesOf s).drop p) = some (n, k) ∧ ((n : Int) < lo ∨ hi < n)) :
    Calls Try.prog 42 #[.pointer (some ⟨br, 0, none⟩), .pointer (some ⟨bl, 0, none⟩), .pointer (some ⟨bm, 0, none⟩), .pointer (some ⟨bn, 0, none⟩)] w fun e w' =>
      e = .panicked [{ v := wrongV, recovered := false }] ∧ Below w.heap.size w w' := by
  have c1 : w.cell? ⟨br, 0, none⟩ = some (.pointer (some ⟨g, 0, none⟩)) := hvr.cell 0 rfl
  have c2 : w.cell? ⟨bl, 0, none⟩ = some (.int .i64 lo) := hvl.cell 0 rfl
  have c3 : w.cell? ⟨bm, 0, none⟩ = some (.int .i64 hi) := hvm.cell 0 rfl
  rcases hd with hd | ⟨n, k, hd, hout⟩
  · have HD := Lib.hid hd
    clear hd
    go_enter Try.func42, Try.ntmps42
    go_wp2_with fail
    refine (number_none g s p false lo hi _ hr hp hx HD.out).mono ?_
    rintro e w1 ⟨rfl, hb⟩
    go_wp2
    exact ⟨rfl, rfl, hb⟩
  · have HD := Lib.hid hd
    have HO := Lib.hid hout
    clear hd hout
    go_enter Try.func42, Try.ntmps42
    go_wp2_with fail
    refine (number_out g s p n k false lo hi _ hr hp hx HD.out HO.out).mono ?_
    rintro e w1 ⟨rfl, hb⟩
    go_wp2
    exact ⟨rfl, rfl, hb⟩
end

theorem enters (F : FuncId) {fn : Func} {c : Code} (hf : Try.prog.funcs[F]? = some fn) (hname : (fn.name == "runtime.NumGoroutine") = false) (hb : fn.body = some c) (caps : Array Value) : ∀ W, (callFunc F caps).run Try.prog W = .ok (.enter F caps) W :=
  fun W => MuLone.run_callFunc_enter hf hname hb caps W

/-- What Number reads: the number, the place behind, whether the reader is stopped. -/
def NumIs (s : ByteArray) (p : Nat) (bad : Bool) (lo hi : Int) (v : Int) (p' : Nat) (bad' : Bool) : Prop :=
  (bad = false ∧ ∃ n k : Nat, VP.dec ((bytesOf s).drop p) = some (n, k) ∧ lo ≤ n ∧ (n : Int) ≤ hi ∧ v = n ∧ p' = p + k ∧ bad' = false) ∨
  ((bad = true ∨ VP.dec ((bytesOf s).drop p) = none ∨ ∃ n k : Nat, VP.dec ((bytesOf s).drop p) = some (n, k) ∧ ((n : Int) < lo ∨ hi < n)) ∧ v = 0 ∧ p' = p ∧ bad' = true)
theorem numIs_of (s : ByteArray) (p : Nat) (bad : Bool) (lo hi : Int) : ∃ v p' bad', NumIs s p bad lo hi v p' bad' := by
  by_cases hb : bad = true
  · exact ⟨0, p, true, .inr ⟨.inl hb, rfl, rfl, rfl⟩⟩
  · rcases hd : VP.dec ((bytesOf s).drop p) with _ | ⟨n, k⟩
    · exact ⟨0, p, true, .inr ⟨.inr (.inl hd), rfl, rfl, rfl⟩⟩
    · by_cases h : lo ≤ n ∧ (n : Int) ≤ hi
      · exact ⟨n, p + k, false, .inl ⟨by simpa using hb, n, k, hd, h.1, h.2, rfl, rfl, rfl⟩⟩
      · exact ⟨0, p, true, .inr ⟨.inr (.inr ⟨n, k, hd, by omega⟩), rfl, rfl, rfl⟩⟩
theorem NumIs.le {s : ByteArray} {p : Nat} {bad : Bool} {lo hi : Int} {v : Int} {p' : Nat} {bad' : Bool} (h : NumIs s p bad lo hi v p' bad') (hp : p ≤ s.size) : p' ≤ s.size := by
  rcases h with ⟨_, n, k, hd, _, _, _, rfl, _⟩ | ⟨_, _, rfl, _⟩
  · have := (VP.dec_only hd).2.2.1
    rw [List.length_drop, bytesOf_length] at this
    omega
  · exact hp

/-- The variables that Number makes. -/
def numWorld (g : Nat) (lo hi : Int) (w : World) : World := (((w.alloc (.cells #[.pointer (some ⟨g, 0, none⟩)] 59)).alloc (.cells #[.int .i64 lo] 3)).alloc (.cells #[.int .i64 hi] 3)).alloc (.cells #[.int .i64 0] 3)
theorem numWorld_size (g : Nat) (lo hi : Int) (w : World) : (numWorld g lo hi w).heap.size = w.heap.size + 4 := by simp [numWorld]
theorem numWorld_below (g : Nat) (lo hi : Int) (w : World) : Below w.heap.size w (numWorld g lo hi w) :=
  ((((Below.refl _ _).alloc (Nat.le_refl _) _).alloc (by simp) _).alloc (by simp; omega) _).alloc (by simp; omega) _
theorem numWorld_vars (g : Nat) (lo hi : Int) (w : World) : Var (numWorld g lo hi w) w.heap.size 59 #[.pointer (some ⟨g, 0, none⟩)] ∧ Var (numWorld g lo hi w) (w.heap.size + 1) 3 #[.int .i64 lo] ∧
    Var (numWorld g lo hi w) (w.heap.size + 2) 3 #[.int .i64 hi] ∧ Var (numWorld g lo hi w) (w.heap.size + 3) 3 #[.int .i64 0] := by
  have e1 : (w.alloc (.cells #[.pointer (some ⟨g, 0, none⟩)] 59)).heap.size = w.heap.size + 1 := by simp
  have e2 : ((w.alloc (.cells #[.pointer (some ⟨g, 0, none⟩)] 59)).alloc (.cells #[.int .i64 lo] 3)).heap.size = w.heap.size + 2 := by simp
  have e3 : (((w.alloc (.cells #[.pointer (some ⟨g, 0, none⟩)] 59)).alloc (.cells #[.int .i64 lo] 3)).alloc (.cells #[.int .i64 hi] 3)).heap.size = w.heap.size + 3 := by simp
  refine ⟨(((Var.new _ _ _).alloc _).alloc _).alloc _, ?_, ?_, ?_⟩
  · rw [← e1]; exact ((Var.new _ _ _).alloc _).alloc _
  · rw [← e2]; exact (Var.new _ _ _).alloc _
  · rw [← e3]; exact Var.new _ _ _

set_option maxRecDepth 100000 in
set_option maxHeartbeats 1000000 in
theorem number_all (g : Nat) (s : ByteArray) (p : Nat) (bad : Bool) (lo hi v : Int) (p' : Nat) (bad' : Bool) (w : World) (h : NumIs s p bad lo hi v p' bad') (hr : Rd 81 w g s p bad) (hx : s.size ≤ 1000000) (hp : p ≤ s.size) :
    Calls Try.prog 17 #[.pointer (some ⟨g, 0, none⟩), .int .i64 lo, .int .i64 hi] w fun e w' => e = .returned (.int .i64 v) ∧ Rd 81 w' g s p' bad' ∧ Kept [g] w w' := by
  have hmf := mk_any
  have hb0 := numWorld_below g lo hi w
  have hr0 : Rd 81 (numWorld g lo hi w) g s p bad := Var.below hr hb0 (Var.lt hr)
  obtain ⟨v1, v2, v3, v4⟩ := numWorld_vars g lo hi w
  have hg := Var.lt hr
  have hcf := enters 42 Try.func42 (by kernel_rfl) rfl #[.pointer (some ⟨w.heap.size, 0, none⟩), .pointer (some ⟨w.heap.size + 1, 0, none⟩), .pointer (some ⟨w.heap.size + 2, 0, none⟩), .pointer (some ⟨w.heap.size + 3, 0, none⟩)]
  have H := Lib.hid h
  have HCF := Lib.hid hcf
  have hsz := numWorld_size g lo hi w
  have HSZ := Lib.hid hsz
  clear h hcf hsz
  have hall : Calls Try.prog 41 #[.pointer (some ⟨g, 0, none⟩), .func (.func 42) #[] #[.pointer (some ⟨w.heap.size, 0, none⟩), .pointer (some ⟨w.heap.size + 1, 0, none⟩), .pointer (some ⟨w.heap.size + 2, 0, none⟩), .pointer (some ⟨w.heap.size + 3, 0, none⟩)]] (numWorld g lo hi w)
      fun e w' => e = .returned (.tuple #[]) ∧ Rd 81 w' g s p' bad' ∧ w'.cell? ⟨w.heap.size + 3, 0, none⟩ = some (.int .i64 v) ∧ Kept [g] w w' := by
    have stop : ∀ w', Kept [g] (numWorld g lo hi w) w' → w'.cell? ⟨w.heap.size + 3, 0, none⟩ = some (.int .i64 0) ∧ Kept [g] w w' := fun w' hk =>
      ⟨(v4.kept hk (by simp; omega)).cell 0 rfl, (Kept.of_below hb0).trans hk⟩
    rcases H.out with ⟨rfl, n, k, hd, hlo, hhi, rfl, rfl, rfl⟩ | ⟨hc, rfl, rfl, rfl⟩
    · have hlt : p < s.size := by
        have := (VP.dec_only hd).2.2.1
        have h0 := (VP.dec_only hd).2.1
        rw [List.length_drop, bytesOf_length] at this
        omega
      refine (read_ok _ _ g s p (p + k) (w.heap.size + 3) 3 (.int .i64 (n : Int)) _ hr0 hlt (by omega) (by rw [HSZ.out]; simp) HCF.out ?_).mono ?_
      · intro W hb
        have hl := HSZ.out
        exact number1_ok _ _ _ _ g s p lo hi 0 W (v1.below hb (by omega)) (v2.below hb (by omega)) (v3.below hb (by omega)) (v4.below hb (by omega)) (Var.below hr0 hb (Var.lt hr0)) hlt hx (by omega) n k _ hd hlo hhi rfl
      · rintro e w' ⟨rfl, h1, h2, h3⟩
        exact ⟨rfl, h1, h2.cell 0 rfl, (Kept.of_below hb0).then h3 (by intro x hx; simp at hx; rcases hx with rfl | rfl; exact .inl (by simp); exact .inr (by omega))⟩
    · by_cases hbad : bad = true
      · subst hbad
        refine (read_bad _ g s p' _ hr0).mono ?_
        rintro e w' ⟨rfl, h1, h2⟩
        exact ⟨rfl, h1, stop w' h2⟩
      · have hbf : bad = false := by simpa using hbad
        subst hbf
        by_cases hlt : p' < s.size
        · refine (read_no _ _ g s p' _ hr0 hlt HCF.out ?_).mono ?_
          · intro W hb
            have hl := HSZ.out
            refine number1_no _ _ _ _ g s p' lo hi W (v1.below hb (by omega)) (v2.below hb (by omega)) (v3.below hb (by omega)) (Var.below hr0 hb (Var.lt hr0)) hlt hx ?_
            rcases hc with hc | hc
            · cases hc
            · exact hc
          · rintro e w' ⟨rfl, h1, h2⟩
            exact ⟨rfl, h1, stop w' h2⟩
        · refine (read_end _ g s p' _ hr0 (by omega)).mono ?_
          rintro e w' ⟨rfl, h1, h2⟩
          exact ⟨rfl, h1, stop w' h2⟩
  have HALL := Lib.hid hall
  clear hall v1 v2 v3 v4 hr0 hb0
  go_enter Try.func17, Try.ntmps17
  go_wp2_with fail
  refine (show Calls _ _ _ (numWorld g lo hi w) _ from HALL.out).mono ?_
  rintro e w1 ⟨rfl, h1, h2, h3⟩
  go_wp2
  go_ret
  exact ⟨rfl, h1, h3⟩

set_option maxRecDepth 100000 in
theorem number_nil (lo hi : Int) (w : World) : Calls Try.prog 17 #[.pointer none, .int .i64 lo, .int .i64 hi] w fun e w' => e = .returned (.int .i64 0) ∧ Below w.heap.size w w' := by
  have hmf := mk_any
  go_enter Try.func17, Try.ntmps17
  go_wp2_with fail
  refine (read_nil _ _).mono ?_
  rintro e w1 ⟨rfl, hb⟩
  have hb1 : Below w.heap.size w w1 := (((((Below.refl _ _).alloc (Nat.le_refl _) _).alloc (by simp) _).alloc (by simp; omega) _).alloc (by simp; omega) _).trans (hb.mono (by simp; omega))
  have hc : w1.cell? ⟨w.heap.size + 3, 0, none⟩ = some (.int .i64 0) := by
    rw [hb.cell (p := ⟨w.heap.size + 3, 0, none⟩) (by simp)]
    go_simp
  go_wp2
  go_ret
  exact ⟨rfl, hb1⟩

end Go.Proofs.Ytchpemgamgcbkaa
