/-
  The contract of a walk's rows, whatever the pass. Conditions: those that the theorem names.
-/
import Derived.Test.YtplpagnnlggfgaaDoorRepFill
import Derived.Test.YtplpagnnlggfgaaDoorRepItoa
import Derived.Deep.RegionLaw
namespace Go.Proofs.YtplpagnnlggfgaaDoor
open Go.RowKit

/-- What rows hands back: the rows in memory of the call's own. -/
def RowsRes {P : Pass} (M : PIn P) (W : Nat) (wr : Int) (A : Array Value) (x : List Rw × Ws P) (w : World) (e : Ending) (w' : World) : Prop :=
  e = .returned (.tuple #[]) ∧ ∃ At nt ct, Wk M w' W wr 2 (A.setIfInBounds 13 (.slice At nt ct)) x.2 ∧ w'.ownsRow (W + 1) 37 5 (.slice At nt ct) nt (rwcells x.1) ∧ x.1.length = nt ∧ Tn [M.g, W] w w'
theorem wloop_step {P : Pass} {s : Ws P} {l : List Rw} {k : Nat} {r y : Rw} {s2 : Ws P} (hk : l[k]? = some r) (hy : wrow s r = (y, s2)) : wloop s (l.drop k) = if s2.bad = true then ([y], s2) else (y :: (wloop s2 (l.drop (k + 1))).1, (wloop s2 (l.drop (k + 1))).2) := by
  have hl := (List.getElem?_eq_some_iff.1 hk).1
  rw [List.drop_eq_getElem_cons hl, (List.getElem?_eq_some_iff.1 hk).2]
  simp only [wloop, hy]
theorem noRw_fit : RwFit noRw := ⟨by simp [noRw], by simp [noRw], by simp [noRw], by simp [noRw, ByteArray.size], by simp [noRw, ByteArray.size]⟩
theorem pad_fit {n : Nat} {fr : List Rw} (h : ∀ x ∈ fr, RwFit x) : ∀ x ∈ pad n fr, RwFit x := by
  intro x hx
  unfold pad at hx
  rcases List.mem_append.1 (List.mem_of_mem_take hx) with hx | hx
  · exact h x hx
  · rw [List.eq_of_mem_replicate hx]
    exact noRw_fit

/-- The rows so far, of rows lst in block g1. -/
structure RwM {P : Pass} (M : PIn P) (W : Nat) (wr : Int) (A : Array Value) (lst : List Rw) (g1 : Nat) (w wv : World) (k : Nat) (Ak : Option Addr) (ck : Nat) (done : List Rw) (s : Ws P) : Prop where
  wk : Wk M wv W wr 1 (A.setIfInBounds 13 (.slice Ak k ck)) s
  own : wv.ownsRow (g1 + 1) 37 5 (.slice Ak k ck) k (rwcells done)
  len : done.length = k
  seen : Seen wv (g1 + 1) (some ⟨g1, 0, none⟩) (rwcells lst)
  typ : Typed wv g1 37
  tn : Tn [M.g, W] w wv
  size : g1 + 1 ≤ wv.heap.size
structure RwL {P : Pass} (M : PIn P) (W : Nat) (wr : Int) (A : Array Value) (s1 : Ws P) (lst : List Rw) (g1 : Nat) (w wv : World) (k : Nat) (Ak : Option Addr) (ck : Nat) (done : List Rw) (s : Ws P) : Prop where
  m : RwM M W wr A lst g1 w wv k Ak ck done s
  ok : wloop s1 lst = (done ++ (wloop s (lst.drop k)).1, (wloop s (lst.drop k)).2)
  sz : P.sz s.st ≤ 500010 + 2230 * k
  live : k < lst.length → s.bad = false
theorem seen_block {w w' : World} {B b : Nat} {xs : List Value} (h : Seen w B (some ⟨b, 0, none⟩) xs) (hb : w'.heap[b]? = w.heap[b]?) : Seen w' B (some ⟨b, 0, none⟩) xs := fun hne => by
  obtain ⟨b', off, he, hlt, hc⟩ := h hne
  refine ⟨b', off, he, hlt, fun j u hu => ?_⟩
  injection he with he
  injection he with e1 e2 _
  subst e1
  rw [← hc j u hu]
  simp only [World.cell?, hb]
/-- One row more. -/
theorem RwM.step {P : Pass} {M : PIn P} {W : Nat} {wr : Int} {A : Array Value} {lst : List Rw} {g1 : Nat} {w wv w4 w5 w9 : World} {k : Nat} {Ak A9 : Option Addr} {ck c9 : Nat} {done : List Rw} {s s2 : Ws P} {y : Rw} {o : Obj} (L : RwM M W wr A lst g1 w wv k Ak ck done s) (hW : W < g1) (hg : M.g < W) (hwg : w.heap.size ≤ g1)
    (b4 : Below wv.heap.size wv w4) (u5 : Tn [M.g, W] w4 w5) (k9 : Wk M w9 W wr 1 (A.setIfInBounds 13 (.slice Ak k ck)) s2) (hown : w9.ownsRow (g1 + 1) 37 5 (.slice A9 (k + 1) c9) (k + 1) (rwcells done ++ rwcell y)) (hb9 : Below (g1 + 1) (w5.alloc o) w9) :
    RwM M W wr A lst g1 w (w9.setCell ⟨W, 13, none⟩ (.slice A9 (k + 1) c9)) (k + 1) A9 c9 (done ++ [y]) s2 := by
  have h1 : w4.heap[g1]? = wv.heap[g1]? := b4.block g1 (by have := L.size; omega)
  have h4 : Typed w4 g1 37 := by obtain ⟨cs, x, h⟩ := L.typ; exact ⟨cs, x, h1.trans h⟩
  have hz4 : g1 < w4.heap.size := by obtain ⟨_, _, h⟩ := h4; exact heap_lt h
  have h5 : w5.heap[g1]? = w4.heap[g1]? := u5.block g1 hz4 (by simp; omega) (fun ⟨ht, _⟩ => by have := h4.one ht; revert this; decide)
  have hz5 : g1 < w5.heap.size := Nat.lt_of_lt_of_le hz4 u5.size
  have h6 : (w5.alloc o).heap[g1]? = w5.heap[g1]? := (below_new o).block g1 hz5
  have h9 : w9.heap[g1]? = (w5.alloc o).heap[g1]? := hb9.block g1 (by omega)
  have h10 : (w9.setCell ⟨W, 13, none⟩ (.slice A9 (k + 1) c9)).heap[g1]? = w9.heap[g1]? := Below.heap_setCell _ _ _ _ (by show g1 ≠ W; omega)
  have hall := h10.trans (h9.trans (h6.trans (h5.trans h1)))
  have kk := k9.put 13 (by omega) (by omega) (.slice A9 (k + 1) c9)
  rw [set_set] at kk
  refine ⟨kk, ?_, by rw [List.length_append, L.len]; rfl, seen_block L.seen hall, ?_, ?_, ?_⟩
  · rw [rwcells_append]
    have : rwcells [y] = rwcell y := by simp [rwcells]
    rw [this]
    exact own_set hown (by show W < g1 + 1; omega) _
  · obtain ⟨cs, x, h⟩ := L.typ
    exact ⟨cs, x, hall.trans h⟩
  · exact ((((L.tn.trans (Tn.of_below b4)).trans u5).alloc o).low hb9 (by omega)).setCell (.inl (by simp)) _
  · have := hb9.size
    simp only [World.size_alloc] at this
    simp [World.setCell]
    omega
set_option maxRecDepth 100000 in
set_option maxHeartbeats 2000000 in
theorem rows_any {P : Pass} (M : PIn P) (W : Nat) (wn : Int) (A : Array Value) (s : Ws P) (Af : Option Addr) (nf cf : Nat) (fr : List Rw) (w : World) (h : Wk M w W wn 1 A s) (hs : P.sz s.st ≤ 500000) (hb : s.bad = false) (h7 : A[7]? = some (.slice Af nf cf)) (h13 : A[13]? = some (.slice none 0 0))
    (hf : fr.length = nf) (hseen : Seen w M.g Af (rwcells fr)) (hmax : nf ≤ 9223372036854775807) (hfit : ∀ x ∈ fr, RwFit x) :
    Calls Tryd.prog 39 #[.pointer (some ⟨W, 0, none⟩)] w (RowsRes M W wn A (wrows s fr) w) := by
  have c7 := h.cell 7 h7
  have hl' := h.lt'
  have hl := h.lt
  obtain ⟨nn, s1, hn1⟩ : ∃ nn s1, wnum s (nf : Int) 0 64 = (nn, s1) := ⟨_, _, rfl⟩
  have hC := num_int M W wn A s ⟨#[82, 111, 119, 115]⟩ (nf : Int) 0 64 w h (by omega) (by omega) (by omega)
  have hin := wnum_in (s := s) (n := (nf : Int)) (lo := 0) (hi := 64) (by omega) (by omega) (by omega)
  have hzero := fun hbad => wnum_zero (s := s) (n := (nf : Int)) (lo := 0) (hi := 64) hb hbad
  have hsz1 := wnum_sz (s := s) (n := (nf : Int)) (lo := 0) (hi := 64)
  rw [hn1] at hC hin hzero hsz1
  simp only at hC hin hzero hsz1
  obtain ⟨n, rfl⟩ := nat_of hin.1
  have hn64 : n ≤ 64 := by omega
  have hsz : P.sz s1.st ≤ 500010 := by omega
  have hzero' : s1.bad = true → n = 0 := fun hz => by have := hzero hz; omega
  have HRES : Hid (wrows s fr = wloop s1 (pad n fr)) := by show _ = _; simp only [wrows, hf, hn1, Int.toNat_natCast]
  have HC := Lib.hid hC
  have HZ := Lib.hid hzero'
  have HF := Lib.hid hf
  have HPF := Lib.hid (pad_fit (n := n) hfit)
  have hasz := h.asz
  have HA := Lib.hid hasz
  have h13s : A.setIfInBounds 13 (.slice none 0 0) = A := set_same h13
  have H13 := Lib.hid h13s
  have H7 := Lib.hid h7
  clear hC hn1 hin hzero hsz1 hf hb hs hzero' hfit hasz h13s h7 h13
  go_enter Tryd.func39, Tryd.ntmps39
  go_wp2_with fail
  refine HC.out.mono ?_
  rintro e w1 ⟨rfl, k1, t1⟩
  have hsn1 := hseen.below (t1.below (B := M.g) (by omega) (by simp; omega))
  clear c7 HC h hseen hl'
  have c7 := k1.cell 7 H7.out
  have hl' := k1.lt'
  have hmk := row_make n (by omega)
  go_upto_region 2 with fail
  obtain ⟨W2, hW2⟩ : ∃ W2, W2 = w1.alloc (.cells (madeCells #[.int .i64 0, .int .i64 0, .int .i64 0, .string { data := #[] }, .string { data := #[] }] (n * 5)) 37) := ⟨_, rfl⟩
  obtain ⟨g1, hg1⟩ : ∃ g1, g1 = w1.heap.size := ⟨_, rfl⟩
  have v2 : Var W2 g1 37 (madeCells #[.int .i64 0, .int .i64 0, .int .i64 0, .string { data := #[] }, .string { data := #[] }] (n * 5)) := by rw [hW2, hg1]; exact Var.new _ _ _
  have b2 : Below w1.heap.size w1 W2 := by rw [hW2]; exact below_new _
  have k2 := k1.below b2
  have t2 := t1.trans (Tn.of_below b2)
  have hsn2 := hsn1.below (b2.mono (by omega))
  have hWg : W < g1 := by omega
  have hwg : w.heap.size ≤ g1 := by rw [hg1]; exact t1.size
  have HG := Lib.hid hg1
  rw [← hW2, ← hg1]
  have hz2 : W2.heap.size = g1 + 1 := by rw [hW2, hg1]; simp
  have HZ2 := Lib.hid hz2
  clear hW2 k1 t1 hsn1 b2 hmk c7 hl' hg1 hz2
  have c7 := k2.cell 7 H7.out
  have hl' := k2.lt'
  obtain ⟨W3, hcopy, v3, o3⟩ := run_copy_wide (P := Tryd.prog) W2 24 24 3 37 5 g1 n n Af nf cf M.g _ 37 (rwcells (fr.take n)) Tryd.underlying24 (by kernel_rfl) v2 (by rw [rwcells_length, List.length_take, HF.out, Nat.min_comm])
    (fun hne => by
      obtain ⟨b, off, hA, hb, hc⟩ := hsn2 (by intro he; apply hne; cases fr with | nil => simp [rwcells] | cons x l => simp [rwcells, rwcell] at he)
      refine ⟨b, off, hA, hb, fun j u hu => hc j u ?_⟩
      have hp : rwcells (fr.take n) ++ rwcells (fr.drop n) = rwcells fr := by rw [← rwcells_append, List.take_append_drop]
      rw [← hp, List.getElem?_append_left (List.getElem?_eq_some_iff.1 hu).1]
      exact hu)
    (by rw [rwcells_length, List.length_take, size_madeCells]; have : min n fr.length ≤ n := Nat.min_le_left _ _; omega) (rwcells_one _)
  have k3 := k2.only v2 hWg o3 (by decide) (fun i fld u hi => hi.ne v2)
  have l3 : RwL M W wn A s1 (pad n fr) g1 w W3 0 none 0 [] s1 := by
    refine ⟨⟨by rw [H13.out]; exact k3, World.ownsRow_nil _ _ _ _, rfl, pad_seen HF.out v3, v3.typed, t2.only o3 hwg, by rw [o3.size, HZ2.out]; exact Nat.le_refl _⟩, by simp, by omega, fun hlt => ?_⟩
    rw [pad_length] at hlt
    rcases hb : s1.bad with _ | _
    · rfl
    · have := HZ.out hb; omega
  have HCOPY := Lib.hid hcopy
  clear hcopy v3 o3 k3 t2 hsn2 v2
  go_wp2_with (refine Lib.wpList_copy_run _ rfl (.tmp 16) (.tmp 21) 24 24 rfl _ _ rfl rfl HCOPY.out ?_)
  clear HCOPY c7 hl' k2
  have HLST : Hid ((pad n fr).length = n) := pad_length n fr
  go_loopw [25] (fun i wr => ∃ (k ck : Nat) (Ak : Option Addr) (done : List Rw) (sk : Ws P), k ≤ n ∧ i = .int .i64 k ∧ RwL M W wn A s1 (pad n fr) g1 w wr k Ak ck done sk) (fun i _ => n - (intOf i).toNat)
  case atStart => exact ⟨0, 0, none, [], s1, by omega, rfl, l3⟩
  case round =>
    clear l3
    obtain ⟨k, ck, Ak, done, sk, hk, rfl, L⟩ := hrel
    by_cases hlt : k < n
    · obtain ⟨r, hr⟩ := row_here HLST.out hlt
      obtain ⟨b0, o0, he0, _, p0, p1, p2, p3, p4⟩ := row_at L.m.seen hr
      injection he0 with he0
      injection he0 with e1 e2 _
      subst e1 e2
      simp only [Nat.zero_add] at p0 p1 p2 p3 p4
      have hfr := HPF.out r (List.mem_of_getElem? hr)
      have HR := Lib.hid hr
      have hlive := L.live (by rw [HLST.out]; exact hlt)
      have hsk := L.sz
      obtain ⟨y, s2, hy⟩ : ∃ y s2, wrow sk r = (y, s2) := ⟨_, _, rfl⟩
      have hsz2 := wrow_sz (s := sk) (r := r)
      rw [hy] at hsz2
      simp only at hsz2
      have HSZ2 : Hid (P.sz s2.st ≤ 500010 + 2230 * (k + 1)) := by show _ ≤ _; omega
      have HY := Lib.hid hy
      have hwv := L.m.size
      have hlw := L.m.wk.lt'
      have HL := Lib.hid L
      have hzz : P.sz sk.st ≤ 690000 := by omega
      clear hsz2 hsk hr L
      obtain ⟨ra, rp, rs, rk, rv⟩ := r
      simp only at p0 p1 p2 p3 p4
      obtain ⟨bx, hbx⟩ : ∃ bx, bx = wr.heap.size := ⟨_, rfl⟩
      obtain ⟨W4, hW4⟩ : ∃ W4, W4 = wr.alloc (.cells #[.int .i64 ra, .int .i64 rp, .int .i64 rs, .string rk, .string rv] 37) := ⟨_, rfl⟩
      have v4 : Var W4 bx 37 #[.int .i64 ra, .int .i64 rp, .int .i64 rs, .string rk, .string rv] := by rw [hW4, hbx]; exact Var.new _ _ _
      have b4 : Below wr.heap.size wr W4.drew := by rw [hW4]; exact (below_new _).trans (Below.refl _ _).drew
      have k4 := HL.out.m.wk.below b4
      have HROW := row_any M W wn _ sk ⟨ra, rp, rs, rk, rv⟩ W4.drew k4 hzz hfr
      rw [hy] at HROW
      obtain ⟨ya, yp, ys, yk, yv⟩ := y
      simp only [rwvals] at HROW
      have HROW := Lib.hid HROW
      have HW4 := Lib.hid hW4
      have HBX := Lib.hid hbx
      clear hy hW4 hbx hzz hfr
      go_upto_region 6 with fail
      rw [← HW4.out, ← HBX.out]
      have k4' : Wk M W4 W wn 1 (A.setIfInBounds 13 (.slice Ak k ck)) sk := by rw [HW4.out]; exact HL.out.m.wk.below (below_new _)
      have c13 := k4'.cell 13 (set_at (by rw [HA.out]; omega) _)
      have z4 := k4'.lt'
      have zx := v4.lt
      obtain ⟨q0, q1, q2, q3, q4, qf⟩ := v4.cells5
      have o4 : W4.drew.ownsRow (g1 + 1) 37 5 (.slice Ak k ck) k (rwcells done) := own_next HL.out.m.own b4
      have hbase : g1 + 1 ≤ W4.drew.heap.size := Nat.le_trans hwv b4.size
      have HB4 := Lib.hid b4
      clear k4 b4 HW4 p0 p1 p2 p3 p4
      go_region_law (first
        | (refine step_append_row rfl (.tmp 35) (.tmp 39) rfl Tryd.underlying24 row_info rfl (by omega) (by omega) (base := g1 + 1) (n := k) (c := 1) (B := w5.heap.size + 1) (v := .slice Ak k ck) (xs := rwcells done) (news := rwcell ⟨ya, yp, ys, yk, yv⟩) (A := some ⟨w5.heap.size, 0, none⟩) rfl rfl (own_next o5 (below_new _)) rfl (fun u hu => rwcells_one [_] u (by simpa [rwcells] using hu)) (seen_row _ ⟨ya, yp, ys, yk, yv⟩ _ _ rfl) (Nat.le_trans hbase5 (below_new _).size) (by omega) ?_; intro A9 c9 w9 hown9 hb9 hk9; have k9 := (k5.below (below_new (.cells #[.int .i64 ya, .int .i64 yp, .int .i64 ys, .string yk, .string yv] 37))).rowed hb9 (by omega) hk9; have c9' := k9.cell 13 (set_at (by rw [HA.out]; omega) _); have f9 := k9.free 13; have z9 := k9.lt')
        | (go_simp; go_at_call 44; refine (HROW.out).mono ?_; rintro e w5 ⟨rfl, k5, u5⟩; have c5 := k5.cell 13 (set_at (by rw [HA.out]; omega) _); have f5 := k5.free 13; have z5 := k5.lt'; have o5 := own_tn o4 u5 (by simp; omega) (by decide); have hbase5 := Nat.le_trans hbase u5.size; dsimp only))
      all_goals
        have m10 := RwM.step HL.out.m hWg hl hwg HB4.out u5 k9 hown9 hb9
        obtain ⟨W10, hW10⟩ : ∃ W10, W10 = w9.setCell ⟨W, 13, none⟩ (.slice A9 (k + 1) c9) := ⟨_, rfl⟩
        rw [← hW10] at m10 ⊢
        clear hW10 u5 k9 hown9 hb9 hk9 c9' f9 z9 k5 c5 f5 z5 o5 hbase5 k4' c13 z4 zx q0 q1 q2 q3 q4 qf o4 hbase HB4 v4 HROW
        have hstep := wloop_step HR.out HY.out
        obtain ⟨er, ce, he⟩ := m10.wk.errc
        have f14 := m10.wk.free 14
        have z10 := m10.wk.lt'
        rcases he with ⟨hb2, rfl⟩ | ⟨hb2, hch⟩
        · have lx : RwL M W wn A s1 (pad n fr) g1 w W10 (k + 1) A9 c9 (done ++ [⟨ya, yp, ys, yk, yv⟩]) s2 := by
            rw [if_neg (by rw [hb2]; simp)] at hstep
            refine ⟨m10, ?_, HSZ2.out, fun _ => hb2⟩
            rw [HL.out.ok, hstep]
            simp
          clear hstep hb2
          go_wp2
          go_roundw
          case rel => exact ⟨k + 1, c9, A9, done ++ [⟨ya, yp, ys, yk, yv⟩], s2, by omega, by go_num, lx⟩
          case measure => simp [intOf]; omega
        · rw [if_pos hb2] at hstep
          have HST := Lib.hid hstep
          have HB2 := Lib.hid hb2
          obtain ⟨ei, efld, eu, rfl, hei, hef, heu⟩ := id hch
          have hend : ∀ t : ByteArray, RowsRes M W wn A (wrows s fr) w (.returned (.tuple #[])) (((W10.setCell ⟨W, 14, none⟩ (fltV W10.heap.size)).alloc (.cells #[.string t, fltV ei] 80)).drew) := by
            intro t
            have hz : (W10.setCell ⟨W, 14, none⟩ (fltV W10.heap.size)).heap.size = W10.heap.size := by simp [World.setCell]
            have hv := Var.new (W10.setCell ⟨W, 14, none⟩ (fltV W10.heap.size)) #[.string t, fltV ei] 80
            rw [hz] at hv
            have hch' : Chain ((W10.setCell ⟨W, 14, none⟩ (fltV W10.heap.size)).alloc (.cells #[.string t, fltV ei] 80)) W wn 1 (fltV ei) := Chain.turn (fun j _ _ hj _ hc => (hc.other 14 _ (by omega)).alloc _) hch
            have hk := m10.wk.stop2 (m' := 2) (bad := true) (er := fltV W10.heap.size) (.cells #[.string t, fltV ei] 80) (.inr ⟨rfl, _, t, _, rfl, z10, hv, .inr hch'⟩)
            have hs2 : s2 = ⟨s2.st, true⟩ := by have := HB2.out; cases s2; simp only at this; rw [this]
            rw [← hs2] at hk
            have hbn : Below ((W10.setCell ⟨W, 14, none⟩ (fltV W10.heap.size)).alloc (.cells #[.string t, fltV ei] 80)).heap.size ((W10.setCell ⟨W, 14, none⟩ (fltV W10.heap.size)).alloc (.cells #[.string t, fltV ei] 80)) (((W10.setCell ⟨W, 14, none⟩ (fltV W10.heap.size)).alloc (.cells #[.string t, fltV ei] 80)).drew) := (Below.refl _ _).drew
            have hw : wrows s fr = (done ++ [⟨ya, yp, ys, yk, yv⟩], s2) := by rw [HRES.out, HL.out.ok, HST.out]
            rw [hw]
            exact ⟨rfl, A9, k + 1, c9, hk.below hbn, own_down (own_next (own_next (own_set m10.own (by show W < g1 + 1; omega) _) (below_new _)) hbn) (by omega), m10.len, ((m10.tn.setCell (.inl (by simp)) _).alloc _).drew⟩
          have HEND := Lib.hid hend
          clear hstep hb2 hend hch hei hef heu m10 HST HB2
          go_wp2_with fail
          go_region_with (first | (go_at_call 45; refine (itoa_any k (by omega) _).mono ?_; rintro e11 w11 ⟨⟨t11, rfl, ht11⟩, rfl⟩))
          all_goals
            go_wp2
            refine bodyPost_end (results_none rfl _ _ _) rfl ?_
            exact HEND.out _
    · have hkn : k = n := by omega
      have hfin := L.ok
      have hd : (pad n fr).drop k = [] := List.drop_of_length_le (by rw [HLST.out]; omega)
      rw [hd] at hfin
      simp only [wloop, List.append_nil] at hfin
      have HFIN := Lib.hid hfin
      clear hfin hd
      go_wp2
      refine bodyPost_end (results_none rfl _ _ _) rfl ?_
      rw [HRES.out, HFIN.out]
      exact ⟨rfl, Ak, k, ck, L.m.wk.up, own_down L.m.own (by omega), L.m.len, L.m.tn⟩
end Go.Proofs.YtplpagnnlggfgaaDoor
