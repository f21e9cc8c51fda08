/-
  The contract of request's read: the valid request whose bytes are these, or an error. Conditions: those that the theorem names.
-/
import Derived.Test.YtfcifblbapadpaaGreatDoorReqList
namespace Go.Proofs.YtfcifblbapadpaaGreatDoor
open Go.RowKit

section
variable {s : ByteArray}
theorem RunIs.le : ∀ (fs : List Fd) {p q : Nat} {x z : Rq}, RunIs s fs p x (some (z, q)) → p ≤ s.size → q ≤ s.size
  | [], p, q, x, z, h, hp => by
    injection h with h
    injection h with _ h
    omega
  | f :: fs, p, q, x, z, ⟨x', p', bad, h, ho⟩, hp => by
    rcases ho with ⟨_, h9⟩ | ⟨rfl, hr⟩
    · cases h9
    · exact RunIs.le fs hr (h.le hp)
/-- The end behind the fields. -/
def atEnd (s : ByteArray) : Option (Rq × Nat) → Option (Rq × Nat)
  | none => none
  | some (z, q) => if q = s.size then some (z, q) else none
theorem RunIs.snoc : ∀ (fs : List Fd) {p : Nat} {x : Rq} {r : Option (Rq × Nat)}, RunIs s fs p x r → RunIs s (fs ++ [.fin]) p x (atEnd s r)
  | [], p, x, r, h => by
    have h' : r = some (x, p) := h
    subst h'
    by_cases hp : p = s.size
    · exact ⟨x, p, false, ⟨rfl, rfl, .inl ⟨rfl, hp, rfl⟩⟩, .inr ⟨rfl, by show atEnd s _ = _; simp only [atEnd, if_pos hp]⟩⟩
    · exact ⟨x, p, true, ⟨rfl, rfl, .inr ⟨.inr hp, rfl⟩⟩, .inl ⟨rfl, by simp only [atEnd, if_neg hp]⟩⟩
  | f :: fs, p, x, r, ⟨x', p', bad, h, ho⟩ => by
    refine ⟨x', p', bad, h, ?_⟩
    rcases ho with ⟨h1, rfl⟩ | ⟨h1, hr⟩
    · exact .inl ⟨h1, rfl⟩
    · exact .inr ⟨h1, RunIs.snoc fs hr⟩
theorem run_all {k : Int} {p : Nat} (h : NumIs s 0 false 0 9 k p false) (hp : p ≤ s.size) : ∃ r, RunIs s (fdsOf k ++ [.fin]) p (Rq.of k) r ∧ ((∃ z q, r = some (z, q) ∧ QIs s z 0) ∨ (r = none ∧ QIs s noRq 70)) := by
  obtain ⟨r, hr⟩ := runIs_of s (fdsOf k) p (Rq.of k)
  refine ⟨atEnd s r, hr.snoc, ?_⟩
  rcases hr.qis h (fun z q' e => by subst e; exact hr.le _ hp) with ⟨z, q, rfl, hq, h9⟩ | ⟨h1, h9⟩
  · exact .inl ⟨z, q, by simp only [atEnd, if_pos hq], h9⟩
  · refine .inr ⟨?_, h9⟩
    rcases h1 with rfl | ⟨z, q, rfl, hq⟩
    · rfl
    · simp only [atEnd, if_neg hq]
end

/-- What each of the reader's methods does. -/
theorem m_any (f : Fd) (R g : Nat) (s : ByteArray) (p : Nat) (x x' : Rq) (p' : Nat) (bad' : Bool) (A : Option Addr) (n c : Nat) (w : World) (h : FxIs true s p false x f x' p' bad') (hr : RqAt w R g s p x A n c) (hx : s.size ≤ 1000000) (hp : p ≤ s.size) :
    Calls Tryz.prog (fnum f) #[.pointer (some ⟨R, 0, none⟩)] w (MRes R g s x' p' bad' w) := by
  cases f
  · exact m_tid R g s p x x' p' bad' A n c w h hr hx hp
  · exact m_timeout R g s p x x' p' bad' A n c w h hr hx hp
  · exact m_pid R g s p x x' p' bad' A n c w h hr hx hp
  · exact m_ep R g s p x x' p' bad' A n c w h hr hx hp
  · exact m_part R g s p x x' p' bad' A n c w h hr hx hp
  · exact m_group R g s p x x' p' bad' A n c w h hr hx hp
  · exact m_off R g s p x x' p' bad' A n c w h hr hx hp
  · exact m_most R g s p x x' p' bad' A n c w h hr hx hp
  · exact m_yes R g s p x x' p' bad' A n c w h hr hx
  · exact m_batch R g s p x x' p' bad' A n c w h hr hx hp
  · exact m_fin R g s p x x' p' bad' A n c w h hr
theorem m_enters (f : Fd) (caps : Array Value) (W : World) : (callFunc (fnum f) caps).run Tryz.prog W = .ok (.enter (fnum f) caps) W := by
  cases f
  · exact enters _ Tryz.func35 (by kernel_rfl) rfl caps W
  · exact enters _ Tryz.func36 (by kernel_rfl) rfl caps W
  · exact enters _ Tryz.func39 (by kernel_rfl) rfl caps W
  · exact enters _ Tryz.func40 (by kernel_rfl) rfl caps W
  · exact enters _ Tryz.func37 (by kernel_rfl) rfl caps W
  · exact enters _ Tryz.func41 (by kernel_rfl) rfl caps W
  · exact enters _ Tryz.func42 (by kernel_rfl) rfl caps W
  · exact enters _ Tryz.func44 (by kernel_rfl) rfl caps W
  · exact enters _ Tryz.func43 (by kernel_rfl) rfl caps W
  · exact enters _ Tryz.func38 (by kernel_rfl) rfl caps W
  · exact enters _ Tryz.func45 (by kernel_rfl) rfl caps W
theorem mcells_at {w : World} {B R : Nat} {A : Option Addr} {l : List Fd} {k : Nat} {f : Fd} (h : Seen w B A (mcells R l)) (hk : l[k]? = some f) : ∃ b off, A = some ⟨b, off, none⟩ ∧ b < B ∧ w.cell? ⟨b, off + k, none⟩ = some (mval R f) := by
  have hi : (mcells R l)[k]? = some (mval R f) := by simp [mcells, hk]
  obtain ⟨b, off, rfl, hb, hc⟩ := h (by intro e; rw [e] at hi; simp at hi)
  exact ⟨b, off, rfl, hb, hc k _ hi⟩

/-- What read hands back. -/
def RdRes (x : Rq) (er : Int) (w : World) (e : Ending) (w' : World) : Prop := Below w.heap.size w w' ∧
  ((er = 0 ∧ ∃ A n c, e = .returned (.tuple #[.agg (qvals x A n c), .nilIface]) ∧ QOwn w.heap.size w' x A n c) ∨
   (er = 70 ∧ x = noRq ∧ ∃ (h : Nat) (fld : ByteArray), e = .returned (.tuple #[.agg qzero, .iface 118 (.pointer (some ⟨h, 0, none⟩))]) ∧ w.heap.size ≤ h ∧ Var w' h 120 #[.string fld, .int .i64 70]))

theorem QIs.er {s : ByteArray} {x : Rq} {er : Int} (h : QIs s x er) {z : Rq} {e : Int} (k : QIs s z e) : x = z ∧ er = e := h.one k
/-- The reader's own part of a variable of the reader's. -/
theorem RqAt.range {w : World} {R g : Nat} {s : ByteArray} {p : Nat} {x : Rq} {A : Option Addr} {n c : Nat} (h : RqAt w R g s p x A n c) : w.rangeAt R 1 (qvals x A n c).toList := fun j u hu => by
  have hv := h.v
  have hj : (rqvals g x A n c)[1 + j]? = some u := by
    have e : (rqvals g x A n c).toList = .pointer (some ⟨g, 0, none⟩) :: (qvals x A n c).toList := rfl
    rw [← Array.getElem?_toList, e, Nat.add_comm, List.getElem?_cons_succ]
    exact hu
  exact hv.cell _ hj

set_option maxRecDepth 100000 in
set_option maxHeartbeats 2000000 in
theorem rread_any (A : Option Addr) (l c B : Nat) (bs : List UInt8) (x : Rq) (er : Int) (w : World) (hq : QIs ⟨bs.toArray⟩ x er) (hs : Seen w B A (cells bs)) (hB : B ≤ w.heap.size) (hl : l = bs.length) (hx : l ≤ 1000000) :
    Calls Tryz.prog 10 #[.slice A l c] w (RdRes x er w) := by
  obtain ⟨s, hS⟩ : ∃ s : ByteArray, s = ⟨bs.toArray⟩ := ⟨_, rfl⟩
  rw [← hS] at hq
  have hss : s.size ≤ 1000000 := by rw [hS, ← bytesOf_length, bytesOf_mk]; omega
  have HQ := Lib.hid hq
  obtain ⟨W0, hW0⟩ : ∃ W0, W0 = w.alloc (.cells #[.int .i8 0, .int .i64 0, .int .i64 0, .int .i64 0, .int .i64 0, .int .i64 0, .int .i64 0, .int .i64 0, .int .i64 0, .bool false, .int .i64 0, .int .i64 0, .int .i64 0, .bool false, .slice none 0 0] 29) := ⟨_, rfl⟩
  have v0 : Var W0 w.heap.size 29 #[.int .i8 0, .int .i64 0, .int .i64 0, .int .i64 0, .int .i64 0, .int .i64 0, .int .i64 0, .int .i64 0, .int .i64 0, .bool false, .int .i64 0, .int .i64 0, .int .i64 0, .bool false, .slice none 0 0] := by rw [hW0]; exact Var.new _ _ _
  have b0 : Below w.heap.size w W0 := by rw [hW0]; exact below_new _
  have hst : (convert 22 9 (.slice A l c)).run Tryz.prog W0 = .ok (.string s) W0 := by
    rw [hS]
    exact str_now (hs.below (b0.mono hB)) _ _ _ l c hl Tryz.underlying22 Tryz.underlying5 Tryz.underlying9
  have HW0 := Lib.hid hW0
  clear hW0 hs hq hS hl hx
  go_enter Tryz.func10, Tryz.ntmps10
  go_upto_region 1 with fail
  rw [← HW0.out]
  go_wp2_with fail
  refine (new_any s W0).mono ?_
  rintro e W1 ⟨rfl, rd1, b1⟩
  clear hst
  obtain ⟨g, hg⟩ : ∃ g, g = W0.heap.size := ⟨_, rfl⟩
  rw [← hg] at rd1 ⊢
  have v1 := v0.below b1 v0.lt
  have b01 := b0.trans (b1.mono b0.size)
  obtain ⟨R, hR⟩ : ∃ R, R = W1.heap.size := ⟨_, rfl⟩
  obtain ⟨W2, hW2⟩ : ∃ W2, W2 = W1.alloc (.cells (rqvals g noRq none 0 0) 59) := ⟨_, rfl⟩
  have hgR : g < R := by rw [hR]; exact Var.lt rd1
  have hwg : w.heap.size < g := by have := v0.lt; omega
  have hbn : Below W1.heap.size W1 W2 := by rw [hW2]; exact below_new _
  have a2 : RqAt W2 R g s 0 noRq none 0 0 := ⟨by rw [hW2, hR]; exact Var.new _ _ _, Var.below rd1 hbn (Var.lt rd1), bare_qown _ _ rfl, hgR⟩
  have v2 := v1.below hbn v1.lt
  have b02 := b01.trans (hbn.mono b01.size)
  have HW2 := Lib.hid (show W2 = W1.alloc (.cells #[.pointer (some ⟨g, 0, none⟩), .int .i8 0, .int .i64 0, .int .i64 0, .int .i64 0, .int .i64 0, .int .i64 0, .int .i64 0, .int .i64 0, .int .i64 0, .bool false, .int .i64 0, .int .i64 0, .int .i64 0, .bool false, .slice none 0 0] 59) from hW2)
  have HR := Lib.hid hR
  clear hW2 hbn rd1 v1 v0 hg b1
  go_upto_region 2 with fail
  rw [← HW2.out, ← HR.out]
  clear hR
  obtain ⟨k0, p, bad, hn⟩ := numIs_of s 0 false 0 9
  have hk09 := hn.in (by omega)
  have hp := hn.le (Nat.zero_le _)
  have HN := Lib.hid hn
  clear hn
  go_wp2_with fail
  refine (r_kind R g s 0 noRq k0 p bad none 0 0 W2 HN.out a2 hss (Nat.zero_le _)).mono ?_
  rintro e W3 ⟨he, hk3, ha3⟩
  have v3 := v2.kept hk3 (by simp; omega)
  have hz3 := hk3.size
  have b03 : Below w.heap.size w W3 := b02.trans ((hk3.below (B := w.heap.size) b02.size (by intro x hx; simp at hx; omega)))
  have hz2 := v2.lt
  clear v2 a2
  cases bad with
  | true =>
    rcases he with ⟨h9, _⟩ | ⟨-, hh, fld, rfl, h1, h2⟩
    · cases h9
    · obtain ⟨rfl, rfl⟩ := HQ.out.er (kind_wrong HN.out)
      have hbh : w.heap.size < hh := by omega
      clear HQ HN
      go_wp2_with (refine wpList_store_var rfl _ _ rfl rfl rfl v3 rfl (by kernel_rfl) (by simp [Value.oneCell']) ?_; intro W9 v9 o9)
      refine bodyPost_ret (results_var_tmp rfl rfl rfl v9 Tryz.underlying29 rfl (by kernel_rfl)) rfl ?_
      exact ⟨Only.below b03 o9 (Nat.le_refl _), .inr ⟨rfl, rfl, hh, fld, rfl, by omega, o9.var h2 (by omega)⟩⟩
  | false =>
    rcases he with ⟨-, rfl⟩ | ⟨h9, _⟩
    rotate_left
    · cases h9
    obtain ⟨A3, n3, c3, a3⟩ := ha3 rfl
    obtain ⟨r, hrun, hres⟩ := run_all HN.out hp
    obtain ⟨k, rfl⟩ : ∃ k : Nat, k0 = k := ⟨k0.toNat, by omega⟩
    have hrun' : RunIs s (fdsOf k ++ [.fin]) p { noRq with kind := (k : Int) } r := hrun
    have HRES := Lib.hid hres
    have hRz := a3.v.lt
    clear hres hrun ha3 HN
    go_wp2_with fail
    refine (list_any R g k _ W3 (by omega) a3.v).mono ?_
    rintro e W4 ⟨A4, L, c4, rfl, hL, o4, b4⟩
    have v4 := v3.below b4 v3.lt
    have a4 : RqAt W4 R g s p { noRq with kind := (k : Int) } A3 n3 c3 := ⟨a3.v.below b4 hRz, Var.below a3.rd b4 (Var.lt a3.rd), a3.own.next b4, a3.lt⟩
    have b04 := b03.trans (b4.mono b03.size)
    obtain ⟨fs, hfs⟩ : ∃ fs, fs = fdsOf (k : Int) ++ [Fd.fin] := ⟨_, rfl⟩
    rw [← hfs] at hrun' hL o4
    have hL6 : L ≤ 6 := by
      have := fds_five (k : Int)
      rw [hL, hfs, List.length_append]
      simp only [List.length_cons, List.length_nil]
      omega
    have HL := Lib.hid hL
    have z4 := b4.size
    clear a3 v3 hL hfs
    go_wp2
    go_loopw [23] (fun i wr => ∃ (j : Nat) (p : Nat) (x : Rq) (A5 : Option Addr) (n5 c5 : Nat), j ≤ L ∧ i = .int .i64 j ∧ RqAt wr R g s p x A5 n5 c5 ∧ Hid (RunIs s (fs.drop j) p x r) ∧ Kept [R, g] W4 wr ∧ p ≤ s.size) (fun i _ => L - (intOf i).toNat)
    case atStart => exact ⟨0, p, _, A3, n3, c3, by omega, rfl, a4, (by show RunIs _ _ _ _ _; rw [List.drop_zero]; exact hrun'), Kept.refl _ _, hp⟩
    case round =>
      obtain ⟨j, q, y, A5, n5, c5, hj, rfl, a5, HRUN, k5, hq5⟩ := hrel
      have v5 := v4.kept k5 (by simp; omega)
      have z5 := k5.size
      have b05 : Below w.heap.size w wr := b04.trans (k5.below (B := w.heap.size) b04.size (by intro x hx; simp at hx; omega))
      by_cases hlt : j < L
      · obtain ⟨f, hf⟩ : ∃ f, fs[j]? = some f := ⟨_, List.getElem?_eq_getElem (by have := HL.out; omega)⟩
        have hd : fs.drop j = f :: fs.drop (j + 1) := by
          rw [List.getElem?_eq_some_iff] at hf
          obtain ⟨h1, h2⟩ := hf
          rw [← h2]
          exact List.drop_eq_getElem_cons h1
        have hrun2 := HRUN.out
        rw [hd] at hrun2
        obtain ⟨y', q', bad, hfx, ho⟩ := hrun2
        obtain ⟨b, off, hAb, hb, hc⟩ := mcells_at (R := R) (l := fs) (by
          obtain ⟨A', c', he, hs, _⟩ := own_formN (own_kept o4 k5 (by intro x hx; simp at hx; omega))
          injection he with h1 _ _
          rw [← h1] at hs
          exact hs) hf
        subst hAb
        have hc' : wr.cell? ⟨b, off + j, none⟩ = some (.func (.func (fnum f)) #[.pointer (some ⟨R, 0, none⟩)] #[]) := hc
        have hcf : ∀ W, (callFunc (fnum f) #[.pointer (some ⟨R, 0, none⟩)]).run Tryz.prog W = .ok (.enter (fnum f) #[.pointer (some ⟨R, 0, none⟩)]) W := fun W => m_enters f _ W
        have HFX := Lib.hid hfx
        have HO := Lib.hid ho
        have hq' := hfx.le hq5
        have HF := Lib.hid hf
        clear hc hd hfx ho hf HRUN hrun'
        go_wp2_with fail
        refine (m_any f R g s q y y' q' bad A5 n5 c5 wr HFX.out a5 hss hq5).mono ?_
        rintro e W6 ⟨he, k6, ha6⟩
        have hz5 := v5.lt
        have v6 := v5.kept k6 (by simp; omega)
        have z6 := k6.size
        have b06 : Below w.heap.size w W6 := b05.trans (k6.below (B := w.heap.size) b05.size (by intro x hx; simp at hx; omega))
        have k46 := k5.trans k6
        clear a5 v5 hc' HFX
        cases bad with
        | false =>
          rcases he with ⟨-, rfl⟩ | ⟨h9, _⟩
          rotate_left
          · cases h9
          obtain ⟨A6, n6, c6, a6⟩ := ha6 rfl
          have HR2 : Hid (RunIs s (fs.drop (j + 1)) q' y' r) := by
            rcases HO.out with ⟨h9, _⟩ | ⟨_, h⟩
            · cases h9
            · exact h
          clear HO ha6
          go_wp2
          go_roundw
          case rel => exact ⟨j + 1, q', y', A6, n6, c6, by omega, by go_num, a6, HR2, k46, hq'⟩
          case measure => simp [intOf]; omega
        | true =>
          rcases he with ⟨h9, _⟩ | ⟨-, hh, fld, rfl, h1, h2⟩
          · cases h9
          have hr0 : r = none := by
            rcases HO.out with ⟨_, h⟩ | ⟨h9, _⟩
            · exact h
            · cases h9
          have hQ : QIs s noRq 70 := by
            rcases HRES.out with ⟨z, q, h, _⟩ | ⟨_, h⟩
            · rw [hr0] at h; cases h
            · exact h
          obtain ⟨rfl, rfl⟩ := HQ.out.er hQ
          clear HO ha6 hr0 hQ HQ HRES
          go_wp2_with (refine wpList_store_var rfl _ _ rfl rfl rfl v6 rfl (by kernel_rfl) (by simp [Value.oneCell']) ?_; intro W9 v9 o9)
          refine bodyPost_ret (results_var_tmp rfl rfl rfl v9 Tryz.underlying29 rfl (by kernel_rfl)) rfl ?_
          exact ⟨Only.below b06 o9 (Nat.le_refl _), .inr ⟨rfl, rfl, hh, fld, rfl, by omega, o9.var h2 (by omega)⟩⟩
      · have hjL : j = L := by omega
        subst hjL
        have hd : fs.drop j = [] := List.drop_eq_nil_of_le (by have := HL.out; omega)
        have hrun2 := HRUN.out
        rw [hd] at hrun2
        have hr0 : r = some (y, q) := hrun2
        have hQ : QIs s y 0 := by
          rcases HRES.out with ⟨z, q2, h, hz⟩ | ⟨h, _⟩
          · rw [hr0] at h
            injection h with h
            injection h with h _
            rw [h]
            exact hz
          · rw [hr0] at h; cases h
        obtain ⟨rfl, rfl⟩ := HQ.out.er hQ
        have hcell := a5.range
        have HA := Lib.hid a5
        clear HQ HRES hr0 hQ hrun2 hd HRUN hrun' a5
        go_wp2_with (first | refine wpList_load_mid rfl _ _ rfl R 1 rfl (qvals x A5 n5 c5).toList _ hcell Tryz.underlying29 rfl (by kernel_rfl) ?_ | (refine wpList_store_var rfl _ _ rfl rfl rfl v5 rfl (by kernel_rfl) (qvals_one _ _ _ _) ?_; intro W9 v9 o9))
        refine bodyPost_ret (results_var_tmp rfl rfl rfl v9 Tryz.underlying29 rfl (by kernel_rfl)) rfl ?_
        exact ⟨Only.below b05 o9 (Nat.le_refl _), .inl ⟨rfl, A5, n5, c5, rfl, (HA.out.own.only o9 (by omega)).down (by omega)⟩⟩
end Go.Proofs.YtfcifblbapadpaaGreatDoor
