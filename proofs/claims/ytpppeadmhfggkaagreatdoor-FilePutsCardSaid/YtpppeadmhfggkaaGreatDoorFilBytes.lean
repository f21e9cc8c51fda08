/-
  Contracts of file's Bytes (the function over which it goes too) and of the reference's: what each returns and what it does to memory. Conditions: those that each theorem names.
-/
import Derived.Test.YtpppeadmhfggkaaGreatDoorFilStr
import Derived.Test.YtpppeadmhfggkaaGreatDoorFilG3
import Derived.Test.YtpppeadmhfggkaaGreatDoorFilG5
namespace Go.Proofs.YtpppeadmhfggkaaGreatDoor
open Go.RowKit Go.Shelf DP
attribute [local go_sem] Oper.semAt_some

/-! ### a frame, whatever the load -/
def bytesS (s : ByteArray) : ByteArray := if s.size ≤ 1024 then str (FP.enc (bytesOf s)) else ByteArray.empty
def bytesE (s : ByteArray) : Int := if s.size ≤ 1024 then 0 else 2
theorem bytes_any (s : ByteArray) (w : World) (hm : s.size ≤ 140737488351232) : Calls Tryz.prog 68 #[.string s] w fun e w' => e = .returned (.tuple #[.string (bytesS s), .int .i64 (bytesE s)]) ∧ Below w.heap.size w w' := by
  unfold bytesS bytesE
  by_cases h : s.size ≤ 1024
  · rw [if_pos h, if_pos h]; exact bytes_yes s w h
  · rw [if_neg h, if_neg h]; exact (bytes_no s w (by omega) hm).mono fun _ _ ⟨he, hw⟩ => ⟨he, by rw [hw]; exact Below.refl _ _⟩
theorem rbytes_any (s : ByteArray) (w : World) (hm : s.size ≤ 140737488351232) : Calls Tryz.prog 52 #[.string s] w fun e w' => e = .returned (.tuple #[.string (bytesS s), .int .i64 (bytesE s)]) ∧ Below w.heap.size w w' := by
  unfold bytesS bytesE
  by_cases h : s.size ≤ 1024
  · rw [if_pos h, if_pos h]; exact rbytes_yes s w h
  · rw [if_neg h, if_neg h]; exact (rbytes_no s w (by omega) hm).mono fun _ _ ⟨he, hw⟩ => ⟨he, by rw [hw]; exact Below.refl _ _⟩

/-! ### the function over which Bytes goes -/
theorem Seen.grow {w w' : World} {B : Nat} {A : Option Addr} {xs : List Value} (h : Seen w B A xs) (hb : Below w.heap.size w w') : Seen w' B A xs := fun hx => by
  obtain ⟨b, off, rfl, hl, hc⟩ := h hx
  exact ⟨b, off, rfl, hl, fun j u hu => (hb.cell (p := ⟨b, off + j, none⟩) (World.block_lt_of_cell? _ _ (hc j u hu))).trans (hc j u hu)⟩
/-- A load. -/
abbrev Ld := { x : List UInt8 // x.length ≤ 140737488351232 }
def lds (pre : List Ld) : List (List UInt8) := pre.map fun x => x.1
theorem lds_snoc (pre : List Ld) (x : Ld) : lds (pre ++ [x]) = lds pre ++ [x.1] := by simp [lds]
theorem lds_length (pre : List Ld) : (lds pre).length = pre.length := by simp [lds]
abbrev ldV (x : Ld) : Array Value := #[.string (bytesS (str x.1)), .int .i64 (bytesE (str x.1))]

set_option maxRecDepth 100000 in
set_option maxHeartbeats 2000000 in
theorem fseq1_in (n : Nat) (hn : 1 ≤ n) (l Bn : Nat) (A0 : Option Addr) (m c B0 : Nat) (ls : List (List UInt8)) (hm : ls.length = m) (hmm : m ≤ 1000000) (hsz : ∀ x ∈ ls, x.length ≤ 140737488351232) (Kp : World → World → Prop) (J Jx : List Ld → World → Prop)
    (hJ : ∀ pre A B, J pre A → Below A.heap.size A B → J pre B)
    (hKp : ∀ A B, Kp A B → Seen A B0 A0 (strs ls) → Seen B B0 A0 (strs ls))
    (hY : ∀ pre x W, J pre W → pre.length < m + 1 → YieldAt Fence.wide (n - 1) Tryz.prog l (ldV x) W fun e W' =>
      (e = .returned (.bool true) ∧ J (pre ++ [x]) W' ∧ Kp W W') ∨ (e = .returned (.bool false) ∧ Jx (pre ++ [x]) W'))
    (W : World) (hB : Boxed W Bn 40 (.slice A0 m c)) (hS : Seen W B0 A0 (strs ls)) (h0 : J [] W) :
    CallsIn Fence.wide n Tryz.prog 67 #[.func (.yield l) #[] #[], .pointer (some ⟨Bn, 0, none⟩)] W fun e W' => (∃ v, e = .returned v) ∧
      ((∃ ys, lds ys = ls ∧ J ys W') ∨ (∃ pre, (∃ k, lds pre = ls.take k) ∧ Jx pre W')) := by
  have hc := hB.cell
  refine callsIn_of_wp Tryz.func67 rfl trivial ?_ rfl
  simp only [Tryz.ntmps67, List.size_toArray, List.length_cons, List.length_nil, Nat.reduceAdd, Nat.reduceSub, Array.replicate_succ, Array.replicate_zero, List.push_toArray, List.append_toArray, List.nil_append, List.cons_append]
  have HM := Lib.hid hm
  have HSZ := Lib.hid hsz
  clear hm hsz
  gi_wp2
  gi_loopw [7] (fun i wr => ∃ (pre : List Ld) (k : Nat), i = .int .i64 (k : Int) ∧ k ≤ m ∧ lds pre = ls.take k ∧ J pre wr ∧ Seen wr B0 A0 (strs ls))
    (fun i _ => m - (intOf i).toNat)
  case atStart => exact ⟨[], 0, rfl, by omega, by simp [lds], h0, hS⟩
  case round =>
    obtain ⟨pre, k, rfl, hk, hpre, hJs, hsr⟩ := hrel
    have HP := Lib.hid hpre
    clear hpre
    by_cases hlt : k < m
    · have hkl : k < ls.length := by rw [HM.out]; exact hlt
      obtain ⟨b, off, rfl, hbl, hcell⟩ := seen_at hsr hkl
      obtain ⟨x, hx⟩ : ∃ x : Ld, x.1 = ls[k] := ⟨⟨ls[k], HSZ.out _ (List.getElem_mem _)⟩, rfl⟩
      rw [← hx] at hcell
      have HX := Lib.hid hx
      clear hx
      have hxs : (str x.1).size ≤ 140737488351232 := by rw [str_size]; exact x.2
      have hlen : pre.length < m + 1 := by
        have := congrArg List.length HP.out
        rw [lds_length, List.length_take] at this
        omega
      gi_wp2_with fail
      refine ⟨trivial, ?_⟩
      refine (callsIn_wide.2 (bytes_any (str x.1) _ hxs)).mono ?_
      rintro e w1 ⟨rfl, hb1⟩
      obtain ⟨fn, tmps, assign, body, hy, hR⟩ := hY pre x w1 (hJ _ _ _ hJs hb1) hlen
      have hsr1 := hsr.grow hb1
      gi_wp2
      refine hR.mono ?_
      rintro e W3 (⟨rfl, hJ3, hk3⟩ | ⟨rfl, hJx3⟩)
      · gi_wp2
        go_roundw
        case rel =>
          refine ⟨_, k + 1, by go_num, by omega, ?_, hJ3, hKp _ _ hk3 hsr1⟩
          rw [lds_snoc, HP.out, HX.out, List.take_succ_eq_append_getElem hkl]
        case measure => simp [intOf]; omega
      · gi_wp2
        refine bodyPost_ret (results_none rfl _ _ _) rfl ?_
        refine ⟨⟨_, rfl⟩, .inr ⟨_, ⟨k + 1, ?_⟩, hJx3⟩⟩
        rw [lds_snoc, HP.out, HX.out, List.take_succ_eq_append_getElem hkl]
    · obtain rfl : k = m := by omega
      gi_wp2
      go_end0
      refine ⟨⟨_, rfl⟩, .inl ⟨pre, ?_, hJs⟩⟩
      rw [HP.out, List.take_of_length_le (by rw [HM.out]; omega)]

/-- frames(loads): the loads are boxed; the function value captures the box. -/
theorem fseq_in (n : Nat) (A0 : Option Addr) (m c : Nat) (w : World) :
    CallsIn Fence.wide n Tryz.prog 49 #[.slice A0 m c] w fun e w' => e = .returned (.func (.func 67) #[] #[.pointer (some ⟨w.heap.size, 0, none⟩)]) ∧ w' = w.alloc (.cells #[.slice A0 m c] 40) := by
  refine callsIn_of_wp Tryz.func49 rfl trivial ?_ rfl
  simp only [Tryz.ntmps49, List.size_toArray, List.length_cons, List.length_nil, Nat.reduceAdd, Nat.reduceSub, Array.replicate_succ, Array.replicate_zero, List.push_toArray, List.append_toArray, List.nil_append, List.cons_append]
  gi_wp2
  go_ret
  exact ⟨rfl, rfl⟩

/-- .. which hands over each load's frame, whatever a round does that keeps the loads. -/
theorem fseq_stops (n : Nat) (hn : 1 ≤ n) (Bn : Nat) (A0 : Option Addr) (m c B0 : Nat) (ls : List (List UInt8)) (hm : ls.length = m) (hmm : m ≤ 1000000) (hsz : ∀ x ∈ ls, x.length ≤ 140737488351232) (Kp : World → World → Prop) (hKp : ∀ A B, Kp A B → Seen A B0 A0 (strs ls) → Seen B B0 A0 (strs ls))
    (w : World) (hB : Boxed w Bn 40 (.slice A0 m c)) (hS : Seen w B0 A0 (strs ls)) :
    SeqStopsK Fence.wide n Tryz.prog 67 #[.pointer (some ⟨Bn, 0, none⟩)] ldV Kp (fun ys => lds ys = ls) (fun pre => ∃ k, lds pre = ls.take k) (m + 1) w := fun l J Jx W hW hJ _ hY h0 =>
  fseq1_in n hn l Bn A0 m c B0 ls hm hmm hsz Kp J Jx (fun pre A B hA hAB => hJ pre A B none hA (grown_of_below hAB) (fun r e => by cases e)) hKp hY W ((hW.block Bn hB.lt).trans hB) (hS.grow hW) h0

/-! ### Bytes -/
theorem Bld.turned {base b : Nat} {l : List UInt8} {A B : World} {row : Option Nat} (h : Bld base b l A) (hb : b < base) (hg : A.grownBy B row) (hr : ∀ r, row = some r → base ≤ r ∧ ∃ o : Obj, A.heap[r]? = some o ∧ o.isCells = false) : Bld base b l B := by
  obtain ⟨p, v, hv, hp, hown⟩ := h
  exact ⟨p, v, (hg.block b hv.lt (fun e => by have := (hr _ e.symm).1; omega)).trans hv, hp, own_turned hown hg (fun r e => (hr r e).2)⟩
theorem fits_snoc (ls : List (List UInt8)) (x : List UInt8) : fits (ls ++ [x]) = (fits ls && decide (x.length ≤ 1024)) := by simp [fits]
theorem fits_take {ls : List (List UInt8)} (k : Nat) (h : fits ls = true) : fits (ls.take k) = true := by
  rw [fits_all] at h ⊢
  exact fun x hx => h x (List.mem_of_mem_take hx)

set_option maxRecDepth 100000 in
set_option maxHeartbeats 4000000 in
theorem fbytes_in (A0 : Option Addr) (m c B0 : Nat) (ls : List (List UInt8)) (w : World) (hm : ls.length = m) (hmm : m ≤ 100) (hsz : ∀ x ∈ ls, x.length ≤ 140737488351232) (hS : Seen w B0 A0 (strs ls)) (hB0 : B0 ≤ w.heap.size) :
    CallsIn Fence.wide 7 Tryz.prog 29 #[.slice A0 m c] w fun e W' => e = .returned (.tuple #[.string (flatS ls), .int .i64 (flatE ls)]) ∧ Below w.heap.size w W' := by
  refine callsIn_of_wp_marks Tryz.func29 rfl trivial ?_ rfl
  simp only [Tryz.ntmps29, List.size_toArray, List.length_cons, List.length_nil, Nat.reduceAdd, Nat.reduceSub, Array.replicate_succ, Array.replicate_zero, List.push_toArray, List.append_toArray, List.nil_append, List.cons_append]
  have HM := Lib.hid hm
  have HSZ := Lib.hid hsz
  clear hm hsz
  gi_wp2
  refine ⟨trivial, ?_⟩
  refine (fseq_in 6 _ _ _ _).mono ?_
  rintro e w' ⟨rfl, rfl⟩
  gi_wp2
  obtain ⟨W0, hW0⟩ : ∃ W0, W0 = (((w.alloc (.cells #[.string { data := #[] }] 9)).alloc (.cells #[.int .i64 0] 34)).alloc (.cells #[.pointer none, .slice none 0 0] 101)).alloc (.cells #[.slice A0 m c] 40) := ⟨_, rfl⟩
  have hsz0 : W0.heap.size = w.heap.size + 1 + 1 + 1 + 1 := by rw [hW0]; simp
  have hb0 : Below w.heap.size w W0 := by rw [hW0]; exact ((((Below.refl _ w).alloc (Nat.le_refl _) _).alloc (by simp) _).alloc (by simp; omega) _).alloc (by simp; omega) _
  have b0 : Boxed W0 w.heap.size 9 (.string { data := #[] }) := by rw [hW0]; exact (((Boxed.new w _ _).alloc _).alloc _).alloc _
  have b1 : Boxed W0 (w.heap.size + 1) 34 (.int .i64 0) := by
    have h := Boxed.new (w.alloc (.cells #[.string { data := #[] }] 9)) 34 (.int .i64 0)
    rw [World.size_alloc] at h
    rw [hW0]; exact (h.alloc _).alloc _
  have b2 : Bld W0.heap.size (w.heap.size + 1 + 1) [] W0 := by
    have h := Var.new ((w.alloc (.cells #[.string { data := #[] }] 9)).alloc (.cells #[.int .i64 0] 34)) #[.pointer none, .slice none 0 0] 101
    rw [World.size_alloc, World.size_alloc] at h
    exact ⟨_, _, by rw [hW0]; exact h.alloc _, .inl rfl, World.ownsRow_nil _ _ _ _⟩
  have b3 : Boxed W0 (w.heap.size + 1 + 1 + 1) 40 (.slice A0 m c) := by
    have h := Boxed.new (((w.alloc (.cells #[.string { data := #[] }] 9)).alloc (.cells #[.int .i64 0] 34)).alloc (.cells #[.pointer none, .slice none 0 0] 101)) 40 (.slice A0 m c)
    rw [World.size_alloc, World.size_alloc, World.size_alloc] at h
    rw [hW0]; exact h
  rw [← hW0]
  clear hW0
  have hSw : ∀ A B, Stays W0.heap.size [w.heap.size, w.heap.size + 1, w.heap.size + 1 + 1] A B → Seen A B0 A0 (strs ls) → Seen B B0 A0 (strs ls) := fun A B h hs hx => by
    obtain ⟨b, off, rfl, hl, hc⟩ := hs hx
    exact ⟨b, off, rfl, hl, fun j u hu => by
      rw [← hc j u hu]
      unfold World.cell?
      rw [h.block b (by omega) (by simp; omega)]⟩
  refine wpIn_rangeFunc_ownF rfl (by omega) (gf := 67) (lb := #[.pointer (some ⟨w.heap.size + 1 + 1 + 1, 0, none⟩)]) rfl trivial (enters_of Tryz.func67 (by kernel_rfl) rfl)
    (fseq_stops 6 (by omega) (w.heap.size + 1 + 1 + 1) A0 m c B0 ls HM.out (by omega) HSZ.out (Stays W0.heap.size [w.heap.size, w.heap.size + 1, w.heap.size + 1 + 1]) hSw _ b3 ((hS.grow hb0))) staysK_t (staysK_b (Nat.le_refl _)) (Below.refl _ _) (fun _ => rfl)
    (fun pre W => fits (lds pre) = true ∧ Boxed W w.heap.size 9 (.string { data := #[] }) ∧ Boxed W (w.heap.size + 1) 34 (.int .i64 0) ∧ Bld W0.heap.size (w.heap.size + 1 + 1) (FP.flat (lds pre)) W ∧ Stays W0.heap.size [w.heap.size, w.heap.size + 1, w.heap.size + 1 + 1] W0 W)
    (fun cd pre W => cd = .ret ∧ fits (lds pre) = false ∧ Boxed W w.heap.size 9 (.string { data := #[] }) ∧ Boxed W (w.heap.size + 1) 34 (.int .i64 2) ∧ Stays W0.heap.size [w.heap.size, w.heap.size + 1, w.heap.size + 1 + 1] W0 W)
    (fun pre A B row hs hg hr => ⟨hs.1, hs.2.1.kept hg (fun e => by have := (hr _ e.symm).1; omega), hs.2.2.1.kept hg (fun e => by have := (hr _ e.symm).1; omega), hs.2.2.2.1.turned (by omega) hg hr, hs.2.2.2.2.grown (Nat.le_refl _) hg (fun r e => (hr r e).1)⟩)
    (fun cd pre A B row hs hg hr => ⟨hs.1, hs.2.1, hs.2.2.1.kept hg (fun e => by have := (hr _ e.symm).1; omega), hs.2.2.2.1.kept hg (fun e => by have := (hr _ e.symm).1; omega), hs.2.2.2.2.grown (Nat.le_refl _) hg (fun r e => (hr r e).1)⟩)
    ⟨rfl, b0, b1, b2, Stays.refl _ _ _⟩
    (fun x => { tmps := #[.slice A0 m c, undef, .pointer (some ⟨w.heap.size, 0, none⟩), .pointer (some ⟨w.heap.size + 1, 0, none⟩), .pointer (some ⟨w.heap.size + 1 + 1, 0, none⟩), .string (bytesS (str x.1)), .int .i64 (bytesE (str x.1)), .slice A0 m c, .func (.func 67) #[] #[.pointer (some ⟨w.heap.size + 1 + 1 + 1, 0, none⟩)], .string (bytesS (str x.1)), .int .i64 (bytesE (str x.1)), undef, undef, undef, undef, undef, undef], defers := [] }) ?assign ?body ?done ?stop
  case assign =>
    intro l x W K hK
    gi_wp2
    exact hK
  case body =>
    rintro l pre x W ⟨hfit, hb0', hb1', hbld, hst⟩ hlt
    have hsum := sum_fits hfit
    rw [lds_length] at hsum
    have HFIT := Lib.hid hfit
    clear hfit
    have hsx := str_size x.1
    by_cases hx : x.1.length ≤ 1024
    · have hE : bytesE (str x.1) = 0 := if_pos (by rw [hsx]; exact hx)
      have hS' : bytesS (str x.1) = str (FP.enc x.1) := by rw [bytesS, if_pos (by rw [hsx]; exact hx), bytesOf_str]
      rw [hE, hS']
      clear hE hS'
      have hle : (FP.flat (lds pre)).length + (str (FP.enc x.1)).size ≤ 1000000 := by rw [str_size, FP.flat_length, FP.enc_length]; omega
      gi_wp2_with fail
      refine ⟨trivial, ?_⟩
      refine (CallsIn.inRound l (callsIn_wide.2 (bld_write W0.heap.size (w.heap.size + 1 + 1) (FP.flat (lds pre)) (str (FP.enc x.1)) W hbld (by omega) hst.size hle))).mono ?_
      rintro e w1 ⟨rfl, hbld1, hst1, hko1⟩
      have hst1' : Stays W0.heap.size [w.heap.size, w.heap.size + 1, w.heap.size + 1 + 1] W w1 := ⟨hst1.os, hst1.tape, hst1.output, hst1.size, fun k hk hn => hst1.block k hk (by simp at hn ⊢; omega)⟩
      gi_wp2
      refine ⟨hko1, hst1', ?_, ?_, ?_, ?_, hst.trans hst1'⟩
      · rw [lds_snoc, fits_snoc, HFIT.out, decide_eq_true hx]; rfl
      · exact (hst1.block _ (by omega) (by simp; omega)).trans hb0'
      · exact (hst1.block _ (by omega) (by simp)).trans hb1'
      · rw [lds_snoc, FP.flat_snoc]
        rw [bytesOf_str] at hbld1
        exact hbld1
    · have hE : bytesE (str x.1) = 2 := if_neg (by rw [hsx]; exact hx)
      rw [hE]
      clear hE
      have c0 := hb0'.cell
      have c1 := hb1'.cell
      have f0 := hb0'.frozen
      have f1 := hb1'.frozen
      gi_wp2
      refine ⟨(KeepsOthers.setCell _ _ _).trans (KeepsOthers.setCell _ _ _), rfl, ?_, ?_, ?_, (hst.setCell (by simp) _).setCell (by simp) _⟩
      · rw [lds_snoc, fits_snoc, decide_eq_false hx, Bool.and_false]
      · exact (hb0'.set _).kept (grownBy_setCell' _ _ _) (by simp)
      · exact (hb1'.kept (grownBy_setCell' W w.heap.size (.string { data := #[] })) (by simp)).set _
  case done =>
    rintro D ys W hD hy ⟨hfit, hb0', hb1', hbld, hst⟩ hK
    rw [hy] at hfit hbld
    have c0 := hb0'.cell
    have c1 := hb1'.cell
    have f0 := hb0'.frozen
    have f1 := hb1'.frozen
    have HFIT := Lib.hid hfit
    clear hfit hy
    have hbs := hst.size
    gi_wp2_with fail
    refine ⟨trivial, ?_⟩
    refine (callsIn_wide.2 (bld_string W0.heap.size (w.heap.size + 1 + 1) (FP.flat ls) W hbld (by omega) hst.size)).mono ?_
    rintro e w1 ⟨rfl, hlow, hoth⟩
    have hK1 := others_walk hoth hK (by omega)
    have hb1w : Below w.heap.size W0 w1 := (hst.below (by omega) (by simp; omega)).trans (hlow.mono (by omega))
    have v0 : Boxed w1 w.heap.size 9 (.string { data := #[] }) := (hlow.block _ (by omega)).trans hb0'
    have v1 : Boxed w1 (w.heap.size + 1) 34 (.int .i64 0) := (hlow.block _ (by omega)).trans hb1'
    have c0 := v0.cell
    have c1 := v1.cell
    have f0 := v0.frozen
    have f1 := v1.frozen
    clear hlow hoth hbld hst hK hb0' hb1'
    gi_wp2
    obtain ⟨W2, hW2⟩ : ∃ W2, W2 = (w1.setCell ⟨w.heap.size, 0, none⟩ (.string (str (FP.flat ls)))).setCell ⟨w.heap.size + 1, 0, none⟩ (.int .i64 0) := ⟨_, rfl⟩
    have u0 : Boxed W2 w.heap.size 9 (.string (str (FP.flat ls))) := by rw [hW2]; exact (v0.set _).kept (grownBy_setCell' _ _ _) (by simp)
    have u1 : Boxed W2 (w.heap.size + 1) 34 (.int .i64 0) := by rw [hW2]; exact (v1.kept (grownBy_setCell' w1 w.heap.size (.string (str (FP.flat ls)))) (by simp)).set _
    have hK2 : W2.heap[D]? = some (.deferred (some [])) := by rw [hW2]; exact ((KeepsOthers.setCell w1 _ _).trans (KeepsOthers.setCell _ _ _)).same D _ hK1 rfl
    have hb2w : Below w.heap.size w W2 := by rw [hW2]; exact (((hb0.trans hb1w).setCell (by simp) _).setCell (by simp) _)
    rw [← hW2]
    clear hW2 c0 c1 f0 f1 v0 v1 hK1
    refine ⟨by simp, .inl ⟨_, _, rfl, run_takeDeferred hK2, ?_⟩⟩
    have c0 : (W2.putObj D (.deferred none)).cell? ⟨w.heap.size, 0, none⟩ = some (.string (str (FP.flat ls))) := cell_kept u0.cell (grownBy_putObj' _ D (.deferred none)) (fun r e => by cases e; exact ⟨_, hK2, rfl⟩)
    have c1 : (W2.putObj D (.deferred none)).cell? ⟨w.heap.size + 1, 0, none⟩ = some (.int .i64 0) := cell_kept u1.cell (grownBy_putObj' _ D (.deferred none)) (fun r e => by cases e; exact ⟨_, hK2, rfl⟩)
    refine ⟨.tuple #[.string (str (FP.flat ls)), .int .i64 0], ?_, ?_, ?_⟩
    · simp [results, Tryz.f29, go_sem, c0, c1]
    · rw [flatS_yes HFIT.out, flatE_yes HFIT.out]
    · exact hb2w.trans (belowK_b (w := w) (Nat.le_refl _) W2 D _ _ (by omega) hK2 rfl rfl)
  case stop =>
    rintro D cd pre W hD ⟨k, hy⟩ ⟨rfl, hfit, hb0', hb1', hst⟩ hK
    rw [hy] at hfit
    have hno : fits ls = false := by
      cases h : fits ls
      · rfl
      · rw [fits_take k h] at hfit; cases hfit
    have HNO := Lib.hid hno
    clear hno hfit hy
    have c0 := hb0'.cell
    have c1 := hb1'.cell
    gi_wp2
    refine ⟨by simp, .inl ⟨_, _, rfl, run_takeDeferred hK, ?_⟩⟩
    have c0 : (W.putObj D (.deferred none)).cell? ⟨w.heap.size, 0, none⟩ = some (.string { data := #[] }) := cell_kept hb0'.cell (grownBy_putObj' _ D (.deferred none)) (fun r e => by cases e; exact ⟨_, hK, rfl⟩)
    have c1 : (W.putObj D (.deferred none)).cell? ⟨w.heap.size + 1, 0, none⟩ = some (.int .i64 2) := cell_kept hb1'.cell (grownBy_putObj' _ D (.deferred none)) (fun r e => by cases e; exact ⟨_, hK, rfl⟩)
    refine ⟨.tuple #[.string { data := #[] }, .int .i64 2], ?_, ?_, ?_⟩
    · simp [results, Tryz.f29, go_sem, c0, c1]
    · rw [flatS_no HNO.out, flatE_no HNO.out]; rfl
    · exact (hb0.trans (hst.below (by omega) (by simp; omega))).trans (belowK_b (w := w) (Nat.le_refl _) W D _ _ (by omega) hK rfl rfl)
theorem fbytes_any (A0 : Option Addr) (m c B0 : Nat) (ls : List (List UInt8)) (w : World) (hm : ls.length = m) (hmm : m ≤ 100) (hsz : ∀ x ∈ ls, x.length ≤ 140737488351232) (hS : Seen w B0 A0 (strs ls)) (hB0 : B0 ≤ w.heap.size) :
    Calls Tryz.prog 29 #[.slice A0 m c] w fun e W' => e = .returned (.tuple #[.string (flatS ls), .int .i64 (flatE ls)]) ∧ Below w.heap.size w W' := callsIn_wide.1 (fbytes_in A0 m c B0 ls w hm hmm hsz hS hB0)

/-! ### the reference's Bytes -/
set_option maxRecDepth 100000 in
set_option maxHeartbeats 1000000 in
theorem rfbytes_any (A0 : Option Addr) (m c B0 : Nat) (ls : List (List UInt8)) (w : World) (hm : ls.length = m) (hmm : m ≤ 100) (hsz : ∀ x ∈ ls, x.length ≤ 140737488351232) (hS : Seen w B0 A0 (strs ls)) :
    Calls Tryz.prog 30 #[.slice A0 m c] w fun e W' => e = .returned (.tuple #[.string (flatS ls), .int .i64 (flatE ls)]) ∧ Below w.heap.size w W' := by
  have HM := Lib.hid hm
  have HSZ := Lib.hid hsz
  clear hm hsz
  go_enter Tryz.func30, Tryz.ntmps30
  go_wp2
  go_loopw [4, 5] (fun o i wr => ∃ k : Nat, i = .int .i64 (k : Int) ∧ k ≤ m ∧ o = .string (str (FP.flat (ls.take k))) ∧ fits (ls.take k) = true ∧ Below w.heap.size w wr)
    (fun _ i _ => m - (intOf i).toNat)
  case atStart => exact ⟨0, rfl, by omega, rfl, rfl, Below.refl _ _⟩
  case round =>
    obtain ⟨k, rfl, hk, rfl, hfit, hb⟩ := hrel
    have hsum := sum_fits hfit
    have hfl := FP.flat_length (ls.take k)
    have hkk : (ls.take k).length ≤ k := List.length_take_le _ _
    have hSr := hS.grow hb
    have HFIT := Lib.hid hfit
    have hstr := str_size (FP.flat (ls.take k))
    clear hfit
    by_cases hlt : k < m
    · have hkl : k < ls.length := by rw [HM.out]; exact hlt
      obtain ⟨b, off, rfl, hbl, hcell⟩ := seen_at hSr hkl
      obtain ⟨x, hx⟩ : ∃ x, x = ls[k] := ⟨_, rfl⟩
      rw [← hx] at hcell
      have hxl : x.length ≤ 140737488351232 := by rw [hx]; exact HSZ.out _ (List.getElem_mem _)
      have hxs := str_size x
      have HX := Lib.hid hx
      clear hx
      by_cases hx1 : x.length ≤ 1024
      · have hE : bytesE (str x) = 0 := if_pos (by rw [hxs]; exact hx1)
        have hS' : bytesS (str x) = str (FP.enc x) := by rw [bytesS, if_pos (by rw [hxs]; exact hx1), bytesOf_str]
        have hby := fun W => rbytes_any (str x) W (by omega)
        rw [hE, hS'] at hby
        have henc : (str (FP.enc x)).size = x.length + 4 := by rw [str_size, FP.enc_length]
        have HBY := Lib.hid hby
        clear hE hS' hby hxs
        go_wp2_with fail
        refine (HBY.out _).mono ?_
        rintro e w1 ⟨rfl, hb1⟩
        go_wp2
        go_roundw
        case rel =>
          refine ⟨k + 1, by go_num, by omega, ?_, ?_, hb.trans (hb1.mono hb.size)⟩
          · rw [List.take_succ_eq_append_getElem hkl, FP.flat_snoc, str_append, ← HX.out]
          · rw [List.take_succ_eq_append_getElem hkl, fits_snoc, HFIT.out, ← HX.out, decide_eq_true hx1]; rfl
        case measure => simp [intOf]; omega
      · have hE : bytesE (str x) = 2 := if_neg (by rw [hxs]; exact hx1)
        have hno : fits ls = false := by
          cases h : fits ls
          · rfl
          · rw [fits_all] at h
            exact absurd (by rw [HX.out]; exact h _ (List.getElem_mem _)) hx1
        have hby := fun W => rbytes_any (str x) W (by omega)
        rw [hE] at hby
        have HBY := Lib.hid hby
        have HNO := Lib.hid hno
        clear hE hby hno
        go_wp2_with fail
        refine (HBY.out _).mono ?_
        rintro e w1 ⟨rfl, hb1⟩
        go_wp2
        go_ret2
        exact ⟨by rw [flatS_no HNO.out, flatE_no HNO.out]; rfl, hb.trans (hb1.mono hb.size)⟩
    · obtain rfl : k = m := by omega
      go_wp2
      go_ret2
      have e : ls.take k = ls := List.take_of_length_le (by rw [HM.out]; omega)
      have hf := HFIT.out
      rw [e] at hf ⊢
      exact ⟨by rw [flatS_yes hf, flatE_yes hf]; rfl, hb⟩
end Go.Proofs.YtpppeadmhfggkaaGreatDoor
