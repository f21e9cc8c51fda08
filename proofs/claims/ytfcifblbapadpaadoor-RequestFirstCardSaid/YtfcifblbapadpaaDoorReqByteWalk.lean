/-
  The walk over RequestByte: it returns true and turns nothing that was there. Conditions: what is said of the arguments; the one package variable of errors holds what the program's text lays (Glob).
-/
import Derived.Test.YtfcifblbapadpaaDoorReqGet
import Derived.Test.YtfcifblbapadpaaDoorReqWakes
import Derived.Test.YtfcifblbapadpaaDoorRecCut
namespace Go.Proofs.YtfcifblbapadpaaDoor
open Go.RowKit

theorem QIs.which {s : ByteArray} {x : Rq} {er : Int} (h : QIs s x er) : er = 0 ∨ er = 70 := by
  rcases h with ⟨_, _, h⟩ | ⟨_, _, h⟩
  · exact .inl h
  · exact .inr h
theorem QIs.ok {s : ByteArray} {x : Rq} (h : QIs s x 0) : bytesOf s = x.enc ∧ x.Good := by
  rcases h with ⟨h1, h2, _⟩ | ⟨_, _, h⟩
  · exact ⟨h1, h2⟩
  · cases h
theorem QIs.range {s : ByteArray} {x : Rq} {er : Int} (h : QIs s x er) : -128 ≤ x.kind ∧ x.kind ≤ 127 := by
  rcases h with ⟨_, h, _⟩ | ⟨_, rfl, _⟩
  · have := h.1.1
    have := h.1.2
    omega
  · simp [noRq, Rq.of]
/-- A slice of the call's own that is not empty, opened. -/
theorem own_at {w : World} {base n e : Nat} {v : Value} {xs : List Value} (h : w.ownsRow base e 1 v n xs) (hn : 0 < n) : ∃ g cap cur, v = .slice (some ⟨g, 0, none⟩) n cap ∧ base ≤ g ∧ Var w g e cur ∧ n ≤ cap ∧ cur.size = cap ∧ cur.toList.take n = xs := by
  rcases h.2 with ⟨_, h0⟩ | ⟨g, cap, cur, hv, hb, hg, hc, _, hs, ht⟩
  · omega
  · exact ⟨g, cap, cur, hv, hb, hg, hc, by simpa using hs, by simpa using ht⟩
/-- One of its elements stored. -/
theorem seen_put {w : World} {g n e k : Nat} {cur : Array Value} {bs : List UInt8} (hv : Var w g e cur) (hn : n ≤ cur.size) (ht : cur.toList.take n = cells bs) (hk : k < n) (c : UInt8) : Seen (w.setCell ⟨g, k, none⟩ (.int .u8 (c.toNat : Int))) (w.setCell ⟨g, k, none⟩ (.int .u8 (c.toNat : Int))).heap.size (some ⟨g, 0, none⟩) (cells (bs.set k c)) := fun _ => by
  have hs := hv.set k (.int .u8 (c.toNat : Int))
  refine ⟨g, 0, rfl, hs.lt, fun j u hu => ?_⟩
  rw [Nat.zero_add]
  refine hs.cell j ?_
  have hl : (cells bs).length = n := by rw [← ht, List.length_take, Array.length_toList]; omega
  have e1 : cells (bs.set k c) = (cells bs).set k (.int .u8 (c.toNat : Int)) := by simp [cells, List.map_set]
  rw [e1] at hu
  have hj : j < n := by
    have := (List.getElem?_eq_some_iff.1 hu).1
    rw [List.length_set, hl] at this
    exact this
  by_cases hjk : k = j
  · subst hjk
    rw [List.getElem?_set_self (by omega)] at hu
    injection hu with hu
    subst hu
    simp [show k < cur.size by omega]
  · rw [List.getElem?_set_ne hjk, ← ht, List.getElem?_take_of_lt hj] at hu
    rw [Array.getElem?_setIfInBounds_ne hjk]
    simpa using hu

set_option maxRecDepth 100000 in
set_option maxHeartbeats 4000000 in
theorem byte_walk (A : Option Addr) (l cap : Nat) (bs : List UInt8) (pl cc : Int) (w : World) (hG : Glob w) (hs : Seen w w.heap.size A (cells bs)) (hl : l = bs.length) (hcc : 0 ≤ cc ∧ cc ≤ 255) :
    Calls Tryd.prog 4 #[.slice A l cap, .int .i64 pl, .int .u8 cc] w fun e w' => e = .returned (.bool true) ∧ Below w.heap.size w w' := by
  obtain ⟨i0, hi0, hz0, hz1, hz2⟩ := info_parts u8_info
  by_cases h1 : 1000 < l
  · have t1 : decide ((1000 : Int) < (l : Int)) = true := by simp; omega
    clear hi0 hz0 hz1 hz2 hl hs hG
    go_enter Tryd.func4, Tryd.ntmps4
    go_wp2_with fail
    refine (qwakes_any w).mono ?_
    rintro e W1 ⟨rfl, b1⟩
    go_wp2
    go_ret
    exact ⟨rfl, b1⟩
  have t1 : decide ((1000 : Int) < (l : Int)) = false := by simp; omega
  by_cases h2 : l = 0
  · have t2 : ((l : Int) == 0) = true := by rw [beq_iff_eq]; omega
    clear h2 hi0 hz0 hz1 hz2 hl hs hG
    go_enter Tryd.func4, Tryd.ntmps4
    go_wp2_with fail
    refine (qwakes_any w).mono ?_
    rintro e W1 ⟨rfl, b1⟩
    go_wp2
    go_ret
    exact ⟨rfl, b1⟩
  have t2 : ((l : Int) == 0) = false := by rw [beq_eq_false_iff_ne]; omega
  obtain ⟨c0, hc0⟩ : ∃ c0 : UInt8, (c0.toNat : Int) = cc := ⟨UInt8.ofNat cc.toNat, by rw [VP.toNat_ofNat (by omega)]; omega⟩
  subst hc0
  obtain ⟨x, er, hx⟩ := qIs_of ⟨bs.toArray⟩
  obtain ⟨k, hk, hkl⟩ := cut_is pl l (by omega) (by omega)
  obtain ⟨y, fr, hy⟩ := qIs_of ⟨(bs.set k c0).toArray⟩
  have hkb : k < bs.length := by omega
  obtain ⟨b0, hb0⟩ : ∃ b0, bs[k]? = some b0 := ⟨_, List.getElem?_eq_getElem hkb⟩
  have hset : bs.set k c0 = bs ↔ c0 = b0 := by
    constructor
    · intro h
      have := congrArg (fun l => l[k]?) h
      simp only [List.getElem?_set_self hkb, hb0] at this
      injection this
    · intro h
      subst h
      rw [List.getElem?_eq_getElem hkb] at hb0
      injection hb0 with hb0
      rw [← hb0]
      exact List.set_getElem_self hkb
  have HXY : Hid (er = 0 → fr = 0 → (x = y ↔ c0 = b0)) := fun h1 h2 => by
    subst h1 h2
    rw [← hset]
    have e1 := hx.ok.1
    have e2 := hy.ok.1
    rw [bytesOf_mk] at e1 e2
    exact ⟨fun h => e2.trans ((congrArg Rq.enc h).symm.trans e1.symm), fun h => rq_inj hx.ok.2 hy.ok.2 (e1.symm.trans (h.symm.trans e2))⟩
  have HE := Lib.hid hx.which
  have HF := Lib.hid hy.which
  have HX := Lib.hid hx
  have HY := Lib.hid hy
  have HS := Lib.hid hs
  have HL := Lib.hid hl
  have HK := Lib.hid hk
  have HB0 := Lib.hid hb0
  obtain ⟨ba, oa, hAa, hba, hca⟩ : ∃ ba oa, A = some ⟨ba, oa, none⟩ ∧ ba < w.heap.size ∧ w.cell? ⟨ba, oa + k, none⟩ = some (.int .u8 (b0.toNat : Int)) := by
    obtain ⟨b, off, h1, h2, h3⟩ := hs (by intro e; have := congrArg List.length e; rw [cells_length] at this; simp at this; subst this; simp at hkb)
    exact ⟨b, off, h1, h2, h3 k _ (by simp [cells, hb0])⟩
  subst hAa
  clear hset hb0 hx hy hs hl hk hkb
  go_enter Tryd.func4, Tryd.ntmps4
  go_wp2_with fail
  refine (rget_any (some ⟨ba, oa, none⟩) l cap w.heap.size bs x er w hG HX.out HS.out (Nat.le_refl _) HL.out (by omega)).mono ?_
  rintro e W1 ⟨b1, A1, n1, c1, rfl, o1⟩
  have i1 := o1.qin
  clear o1
  obtain ⟨q7, hq7⟩ : ∃ q, q = W1.heap.size := ⟨_, rfl⟩
  go_upto_region 4 with (refine wpList_store_var rfl _ _ rfl rfl rfl (Var.new W1 #[.int .i8 0, .int .i64 0, .int .i64 0, .int .i64 0, .int .i64 0, .int .i64 0, .int .i64 0, .int .i64 0, .int .i64 0, .bool false, .int .i64 0, .int .i64 0, .int .i64 0, .bool false, .slice none 0 0] 30) rfl (by simp only [qvals]; kernel_rfl) (qvals_one x A1 n1 c1) ?_; intro W2 v2 o2; have b12 : Below W1.heap.size W1 W2 := Only.below (below_new _) o2 (Nat.le_refl _))
  have b2 := b1.trans (b12.mono b1.size)
  have i2 := (i1.below b12).up b12.size
  rw [← hq7] at v2 ⊢
  clear o2 b12 i1 b1 hq7
  have hs2 := HS.out.below b2
  have hbz : Below W2.heap.size W2 (W2.alloc (.cells #[] 5)) := (Below.refl _ _).alloc (Nat.le_refl _) _
  have hown0 : (W2.alloc (.cells #[] 5)).ownsRow W2.heap.size 5 1 (.slice (some ⟨W2.heap.size, 0, none⟩) 0 0) 0 [] := World.ownsRow_made W2 #[] 0 (Nat.le_refl _) (by unfold maxLen; omega) rfl
  have hs2' := hs2.below (hbz.mono b2.size)
  go_wp2_with (at_builtin; refine wpList_append_seen rfl (.tmp 31) (.tmp 32) 31 rfl W2.heap.size 5 i0 (.int .u8 0) 1 Tryd.underlying31 hi0 hz0 hz1 hz2 rfl _ 0 [] rfl hown0 w.heap.size (some ⟨ba, oa, none⟩) l cap (cells bs) rfl ?c0 hs2' (cells_one _) ?c1 ?c2 ?c3 ?_)
  case c0 => rw [cells_length]; exact HL.out.symm
  case c1 => unfold maxLen; omega
  case c2 => omega
  case c3 => simp
  intro v3 W3 hown3 hb3
  have b23 : Below W2.heap.size W2 W3 := hbz.trans hb3
  replace hown3 : W3.ownsRow W2.heap.size 5 1 v3 l (cells bs) := by simpa using hown3
  obtain ⟨g9, c9, cur, rfl, hg9, v9, hc9, hcs9, htk9⟩ := own_at hown3 (by omega)
  have b3 := b2.trans (b23.mono b2.size)
  have v73 := v2.below b23 v2.lt
  have i3 := (i2.below b23).up b23.size
  have hz9 := v9.lt
  have hq79 : q7 < g9 := by have := v2.lt; omega
  have hwg9 : w.heap.size ≤ g9 := by have := b2.size; omega
  obtain ⟨u9, hu9⟩ : ∃ u, W3.cell? ⟨g9, k, none⟩ = some u := ⟨_, v9.cell k (Array.getElem?_eq_getElem (by omega))⟩
  have f9 := v9.free k
  have hsp := seen_put (k := k) v9 (by omega) htk9 hkl c0
  have o9 := Only.setCell g9 k (.int .u8 (c0.toNat : Int)) W3
  have v79 := o9.var v73 (by omega)
  have b9 := Only.below b3 o9 (by omega)
  have i9 : QIn (W3.setCell ⟨g9, k, none⟩ (.int .u8 (c0.toNat : Int))) (W3.setCell ⟨g9, k, none⟩ (.int .u8 (c0.toNat : Int))).heap.size x A1 n1 c1 := ((i2.below (Only.below b23 o9 (by omega)))).up (by rw [o9.size]; exact b23.size)
  obtain ⟨W4, hW4⟩ : ∃ W4, W4 = W3.setCell ⟨g9, k, none⟩ (.int .u8 (c0.toNat : Int)) := ⟨_, rfl⟩
  rw [← hW4] at hsp v79 b9 i9
  have HW4 := Lib.hid hW4
  have hk2 := HK.out
  have hg9w : g9 < W4.heap.size := by rw [hW4, o9.size]; exact hz9
  clear hown3 hb3 b23 v73 i3 i2 v2 b2 hs2 hs2' hown0 hbz hW4 o9 v9 htk9 b3 hi0 hz0 hz1 hz2
  go_upto_region 7 with fail
  rw [← HW4.out]
  clear hu9 f9 HW4 hk2
  go_wp2_with fail
  refine (rget_any (some ⟨g9, 0, none⟩) l c9 W4.heap.size (bs.set k c0) y fr W4 (hG.next b9) HY.out hsp (Nat.le_refl _) (by rw [List.length_set]; exact HL.out) (by omega)).mono ?_
  rintro e W5 ⟨b5', A2, n2, c2, rfl, o5⟩
  have j5 := o5.qin
  have b5 := b9.trans (b5'.mono b9.size)
  have v75 := v79.below b5' v79.lt
  have i5 := (i9.below b5').up b5'.size
  have hs5 := (hsp.below b5').up b5'.size
  have hz45 := b5'.size
  clear o5 b5' v79 i9 hsp b9
  obtain ⟨q11, hq11⟩ : ∃ q, q = W5.heap.size := ⟨_, rfl⟩
  go_upto_region 8 with (refine wpList_store_var rfl _ _ rfl rfl rfl (Var.new W5 #[.int .i8 0, .int .i64 0, .int .i64 0, .int .i64 0, .int .i64 0, .int .i64 0, .int .i64 0, .int .i64 0, .int .i64 0, .bool false, .int .i64 0, .int .i64 0, .int .i64 0, .bool false, .slice none 0 0] 30) rfl (by simp only [qvals]; kernel_rfl) (qvals_one y A2 n2 c2) ?_; intro W6 v6 o6; have b56 : Below W5.heap.size W5 W6 := Only.below (below_new _) o6 (Nat.le_refl _))
  have b6 := b5.trans (b56.mono b5.size)
  have v76 := v75.below b56 v75.lt
  have i6 := (i5.below b56).up b56.size
  have j6 := (j5.below b56).up b56.size
  have hs6 := (hs5.below b56).up b56.size
  have hz56 := b56.size
  have g6 := hG.next b6
  rw [← hq11] at v6 ⊢
  clear o6 b56 b5 v75 i5 j5 hs5 hq11
  have y00 : ((0 : Int) != 0) = false := by decide
  have y70 : ((70 : Int) != 0) = true := by decide
  have y77 : ((70 : Int) != 70) = false := by decide
  rcases HE.out with rfl | rfl
  · rcases HF.out with rfl | rfl
    · obtain ⟨W7, hW7⟩ : ∃ W, W = W6.alloc (.cells #[.int .i64 0, .int .i64 0] 32) := ⟨_, rfl⟩
      have bl : Below W6.heap.size W6 W7 := by rw [hW7]; exact below_new _
      have b7 := b6.trans (bl.mono b6.size)
      have v77 := v76.below bl v76.lt
      have v67 := v6.below bl v6.lt
      have i7 := (i6.below bl).up bl.size
      have j7 := (j6.below bl).up bl.size
      have hs7 := (hs6.below bl).up bl.size
      have HW7 := Lib.hid hW7
      clear hW7 bl b6 v76 v6 i6 j6 hs6
      go_wp2
      refine wp_loop_rounds 3 ?_
      rw [rounds_succ]
      go_wp2
      rw [rounds_succ]
      go_wp2
      rw [rounds_succ]
      go_upto_region 14 with fail
      rw [← HW7.out]
      clear HW7
      have HYY : Hid (YIs y (bs.set k c0) 0) := by
        have e2 := HY.out.ok.1
        rw [bytesOf_mk] at e2
        exact .inl ⟨HY.out.ok.2, e2, rfl⟩
      go_wp2_with (refine wpList_load_var rfl _ rfl Tryd.underlying30 rfl rfl v67 (by simp only [qvals]; kernel_rfl) ?_)
      refine (qbytes_any y A2 n2 c2 W7.heap.size (bs.set k c0) 0 W7 j7 (Nat.le_refl _) HY.out.range HYY.out).mono ?_
      rintro e W8 ⟨hb8, A8, c8, l8, rfl, hl8, hs8, -⟩
      have b8 := b7.trans (hb8.mono b7.size)
      have v78 := v77.below hb8 v77.lt
      have v68 := v67.below hb8 v67.lt
      have i8 := (i7.below hb8).up hb8.size
      have j8 := (j7.below hb8).up hb8.size
      have hs88 := (hs7.below hb8).up hb8.size
      obtain ⟨T, hT⟩ : ∃ T : ByteArray, T = ⟨(bs.set k c0).toArray⟩ := ⟨_, rfl⟩
      have st1 := str_now hs8 31 9 5 l8 c8 hl8 Tryd.underlying31 Tryd.underlying5 Tryd.underlying9
      have st2 := str_now hs88 31 9 5 l c9 (by rw [List.length_set]; exact HL.out) Tryd.underlying31 Tryd.underlying5 Tryd.underlying9
      rw [← hT] at st1 st2
      have eT : (T.toList == T.toList) = true := by simp
      have eN : (T.toList != T.toList) = false := by simp
      clear hT hb8 hl8 hs8 hs88 hs7 v77 v67 i7 j7
      go_wp2_with (refine wpList_load_want (by rfl) _ rfl Tryd.underlying30 rfl rfl v68 (by simp only [qvals]; kernel_rfl) ?_)
      refine (qmay_any y A2 n2 c2 W8.heap.size true W8 j8 (Nat.le_refl _) HY.out.range ⟨fun _ => HY.out.ok.2, fun _ => rfl⟩).mono ?_
      rintro e W9 ⟨rfl, hb9⟩
      have b9 := b8.trans (hb9.mono b8.size)
      have v79 := v78.below hb9 v78.lt
      have v69 := v68.below hb9 v68.lt
      have i9 := (i8.below hb9).up hb9.size
      have j9 := (j8.below hb9).up hb9.size
      clear st1 st2 eT eN b8 v78 v68 i8 j8 hb9
      obtain ⟨m, hm⟩ := iff_of' (x = y)
      have HM := Lib.hid hm
      have hmb : ((c0.toNat : Int) == (b0.toNat : Int)) = m := by
        cases m with
        | true =>
          have h9 := (HXY.out (by first | rfl | trivial) (by first | rfl | trivial)).1 (hm.1 rfl)
          rw [h9]
          exact beq_self_eq_true _
        | false =>
          rw [beq_eq_false_iff_ne]
          intro h9
          have h8 : c0 = b0 := UInt8.toNat_inj.1 (by omega)
          have := hm.2 ((HXY.out (by first | rfl | trivial) (by first | rfl | trivial)).2 h8)
          cases this
      have hmm : (m == m) = true := beq_self_eq_true _
      clear hm
      go_upto_region 18 with fail
      have h0 : Below W9.heap.size W9 W9.drew := (Below.refl _ _).drew
      refine wp_region_held_drew (S := fun w' => Below W9.heap.size W9 w') (by kernel_rfl) h0 (fun hHeld => ?_)
      generalize W9.drew = V8 at h0 hHeld ⊢
      clear hHeld
      refine fld_takes [0, 1, 2, 3, 4, 5, 6, 7, 8, 10, 11, 12, 13, 14, 15] _ 7 _ _ _ (by kernel_rfl) (fun _ d _ _ _ h => by cases d <;> exact h) (by rfl) (by kernel_rfl) (by assumption) ?_
      refine fld_taken (v := ?_) rfl (by rfl) (fun w' hw' => ?_) ?_
      rotate_left
      · (go_simp <;> with_reducible rfl)
      simp only [Act.put, List.getElem_toArray, List.getElem_cons_zero, List.setIfInBounds_toArray, List.set_cons_zero, List.set_cons_succ]
      refine fld_taken (v := ?_) rfl (by rfl) (fun w' hw' => ?_) ?_
      rotate_left
      · (go_simp <;> with_reducible rfl)
      simp only [Act.put, List.getElem_toArray, List.getElem_cons_succ, List.getElem_cons_zero, List.setIfInBounds_toArray, List.set_cons_zero, List.set_cons_succ]
      refine fld_taken (v := ?_) rfl (by rfl) (fun w' hw' => ?_) ?_
      rotate_left
      · (go_simp <;> with_reducible rfl)
      simp only [Act.put, List.getElem_toArray, List.getElem_cons_succ, List.getElem_cons_zero, List.setIfInBounds_toArray, List.set_cons_zero, List.set_cons_succ]
      refine fld_taken (v := ?_) rfl (by rfl) (fun w' hw' => ?_) ?_
      rotate_left
      · (go_simp <;> with_reducible rfl)
      simp only [Act.put, List.getElem_toArray, List.getElem_cons_succ, List.getElem_cons_zero, List.setIfInBounds_toArray, List.set_cons_zero, List.set_cons_succ]
      refine fld_taken (v := ?_) rfl (by rfl) (fun w' hw' => ?_) ?_
      rotate_left
      · (go_simp <;> with_reducible rfl)
      simp only [Act.put, List.getElem_toArray, List.getElem_cons_succ, List.getElem_cons_zero, List.setIfInBounds_toArray, List.set_cons_zero, List.set_cons_succ]
      refine fld_taken (v := ?_) rfl (by rfl) (fun w' hw' => ?_) ?_
      rotate_left
      · (go_simp <;> with_reducible rfl)
      simp only [Act.put, List.getElem_toArray, List.getElem_cons_succ, List.getElem_cons_zero, List.setIfInBounds_toArray, List.set_cons_zero, List.set_cons_succ]
      refine fld_taken (v := ?_) rfl (by rfl) (fun w' hw' => ?_) ?_
      rotate_left
      · (go_simp <;> with_reducible rfl)
      simp only [Act.put, List.getElem_toArray, List.getElem_cons_succ, List.getElem_cons_zero, List.setIfInBounds_toArray, List.set_cons_zero, List.set_cons_succ]
      refine fld_taken (v := ?_) rfl (by rfl) (fun w' hw' => ?_) ?_
      rotate_left
      · refine exec_load_v (x := .tmp 7) ?_ ?_ (v79.below hw' v79.lt) Tryd.underlying30 rfl (by simp only [qvals]; kernel_rfl) <;> rfl
      simp only [Act.put, List.getElem_toArray, List.getElem_cons_succ, List.getElem_cons_zero, List.setIfInBounds_toArray, List.set_cons_zero, List.set_cons_succ]
      refine fld_taken (v := ?_) rfl (by rfl) (fun w' hw' => ?_) ?_
      rotate_left
      · refine exec_load_v (x := .tmp 11) ?_ ?_ (v69.below hw' v69.lt) Tryd.underlying30 rfl (by simp only [qvals]; kernel_rfl) <;> rfl
      simp only [Act.put, List.getElem_toArray, List.getElem_cons_succ, List.getElem_cons_zero, List.setIfInBounds_toArray, List.set_cons_zero, List.set_cons_succ]
      refine fld_taken (v := ?_) rfl (by rfl) (fun w' hw' => ?_) ?_
      rotate_left
      · (go_simp <;> with_reducible rfl)
      simp only [Act.put, List.getElem_toArray, List.getElem_cons_succ, List.getElem_cons_zero, List.setIfInBounds_toArray, List.set_cons_zero, List.set_cons_succ]
      refine fld_taken (v := ?_) rfl (by rfl) (fun w' hw' => ?_) ?_
      rotate_left
      · (go_simp <;> with_reducible rfl)
      simp only [Act.put, List.getElem_toArray, List.getElem_cons_succ, List.getElem_cons_zero, List.setIfInBounds_toArray, List.set_cons_zero, List.set_cons_succ]
      refine fld_taken (v := ?_) rfl (by rfl) (fun w' hw' => ?_) ?_
      rotate_left
      · (go_simp <;> with_reducible rfl)
      simp only [Act.put, List.getElem_toArray, List.getElem_cons_succ, List.getElem_cons_zero, List.setIfInBounds_toArray, List.set_cons_zero, List.set_cons_succ]
      refine fld_taken (v := ?_) rfl (by rfl) (fun w' hw' => ?_) ?_
      rotate_left
      · (go_simp <;> with_reducible rfl)
      simp only [Act.put, List.getElem_toArray, List.getElem_cons_succ, List.getElem_cons_zero, List.setIfInBounds_toArray, List.set_cons_zero, List.set_cons_succ]
      refine fld_taken (v := ?_) rfl (by rfl) (fun w' hw' => ?_) ?_
      rotate_left
      · have hca' : w'.cell? ⟨ba, oa + k, none⟩ = some (.int .u8 (b0.toNat : Int)) := ((b9.trans (hw'.mono b9.size)).cell (p := ⟨ba, oa + k, none⟩) hba).trans hca; (go_simp <;> with_reducible rfl)
      simp only [Act.put, List.getElem_toArray, List.getElem_cons_succ, List.getElem_cons_zero, List.setIfInBounds_toArray, List.set_cons_zero, List.set_cons_succ]
      refine fld_taken (v := ?_) rfl (by rfl) (fun w' hw' => ?_) ?_
      rotate_left
      · (go_simp <;> with_reducible rfl)
      simp only [Act.put, List.getElem_toArray, List.getElem_cons_succ, List.getElem_cons_zero, List.setIfInBounds_toArray, List.set_cons_zero, List.set_cons_succ]
      refine fld_taken_nil ?_
      refine fld_alone (i := 9) (by kernel_rfl) rfl (by rfl) (fun K hK => ?_)
      go_simp
      refine (qsame_any x y A1 A2 n1 n2 c1 c2 W9.heap.size m V8 (i9.below h0) (j9.below h0) h0.size HM.out).mono ?_
      rintro e V9 ⟨rfl, hb⟩
      have h9 := h0.trans (hb.mono h0.size)
      clear hb
      go_wp2_with fail
      refine hK.out _ _ h9 ?_
      clear hK K
      refine fld_takes [16, 17, 18] _ 3 _ _ _ (by kernel_rfl) (fun _ d _ _ _ h => by cases d <;> exact h) (by rfl) (by kernel_rfl) (by assumption) ?_
      refine fld_taken (v := ?_) rfl (by rfl) (fun w' hw' => ?_) ?_
      rotate_left
      · (go_simp <;> with_reducible rfl)
      simp only [Act.put, List.getElem_toArray, List.getElem_cons_succ, List.getElem_cons_zero, List.setIfInBounds_toArray, List.set_cons_zero, List.set_cons_succ]
      refine fld_taken (v := ?_) rfl (by rfl) (fun w' hw' => ?_) ?_
      rotate_left
      · (go_simp <;> with_reducible rfl)
      simp only [Act.put, List.getElem_toArray, List.getElem_cons_succ, List.getElem_cons_zero, List.setIfInBounds_toArray, List.set_cons_zero, List.set_cons_succ]
      refine fld_taken (v := ?_) rfl (by rfl) (fun w' hw' => ?_) ?_
      rotate_left
      · (go_simp <;> with_reducible rfl)
      simp only [Act.put, List.getElem_toArray, List.getElem_cons_succ, List.getElem_cons_zero, List.setIfInBounds_toArray, List.set_cons_zero, List.set_cons_succ]
      refine fld_taken_nil ?_
      refine fld_alone (i := 19) (by kernel_rfl) rfl (by rfl) (fun K hK => ?_)
      go_simp
      refine (qwakes_any V9).mono ?_
      rintro e V10 ⟨rfl, hb⟩
      have h10 := h9.trans (hb.mono h9.size)
      clear hb
      go_wp2_with fail
      refine hK.out _ _ h10 ?_
      clear hK K
      refine fld_takes [20, 21] _ 0 _ _ _ (by kernel_rfl) (fun _ d _ _ _ h => by cases d <;> exact h) (by rfl) (by kernel_rfl) (by assumption) ?_
      refine fld_taken (v := ?_) rfl (by rfl) (fun w' hw' => ?_) ?_
      rotate_left
      · (go_simp <;> with_reducible rfl)
      simp only [Act.put, List.getElem_toArray, List.getElem_cons_succ, List.getElem_cons_zero, List.setIfInBounds_toArray, List.set_cons_zero, List.set_cons_succ]
      refine fld_taken (v := ?_) rfl (by rfl) (fun w' hw' => ?_) ?_
      rotate_left
      · (go_simp <;> with_reducible rfl)
      simp only [Act.put, List.getElem_toArray, List.getElem_cons_succ, List.getElem_cons_zero, List.setIfInBounds_toArray, List.set_cons_zero, List.set_cons_succ]
      refine fld_taken_nil ?_
      refine wpAnyH_done (by kernel_rfl) ?_ _
      have hfin := b9.trans (h10.mono b9.size)
      go_wp2
      go_ret
      exact ⟨rfl, hfin⟩
    · obtain ⟨W7, hW7⟩ : ∃ W, W = W6.alloc (.cells #[.int .i64 0, .int .i64 70] 32) := ⟨_, rfl⟩
      have bl : Below W6.heap.size W6 W7 := by rw [hW7]; exact below_new _
      have b7 := b6.trans (bl.mono b6.size)
      have v77 := v76.below bl v76.lt
      have v67 := v6.below bl v6.lt
      have i7 := (i6.below bl).up bl.size
      have j7 := (j6.below bl).up bl.size
      have hs7 := (hs6.below bl).up bl.size
      have HW7 := Lib.hid hW7
      clear hW7 bl b6 v76 v6 i6 j6 hs6
      go_wp2
      refine wp_loop_rounds 3 ?_
      rw [rounds_succ]
      go_wp2
      rw [rounds_succ]
      go_wp2
      rw [rounds_succ]
      go_upto_region 14 with fail
      rw [← HW7.out]
      clear HW7
      clear hs7
      go_upto_region 18 with fail
      have h0 : Below W7.heap.size W7 W7.drew := (Below.refl _ _).drew
      refine wp_region_held_drew (S := fun w' => Below W7.heap.size W7 w') (by kernel_rfl) h0 (fun hHeld => ?_)
      generalize W7.drew = V8 at h0 hHeld ⊢
      clear hHeld
      refine fld_takes [0, 1, 2, 3, 4, 5, 6, 7, 8, 9, 10, 11, 12, 13, 14, 15, 16, 17, 18] _ 3 _ _ _ (by kernel_rfl) (fun _ d _ _ _ h => by cases d <;> exact h) (by rfl) (by kernel_rfl) (by assumption) ?_
      refine fld_taken (v := ?_) rfl (by rfl) (fun w' hw' => ?_) ?_
      rotate_left
      · (go_simp <;> with_reducible rfl)
      simp only [Act.put, List.getElem_toArray, List.getElem_cons_zero, List.setIfInBounds_toArray, List.set_cons_zero, List.set_cons_succ]
      refine fld_taken (v := ?_) rfl (by rfl) (fun w' hw' => ?_) ?_
      rotate_left
      · (go_simp <;> with_reducible rfl)
      simp only [Act.put, List.getElem_toArray, List.getElem_cons_succ, List.getElem_cons_zero, List.setIfInBounds_toArray, List.set_cons_zero, List.set_cons_succ]
      refine fld_taken (v := ?_) rfl (by rfl) (fun w' hw' => ?_) ?_
      rotate_left
      · (go_simp <;> with_reducible rfl)
      simp only [Act.put, List.getElem_toArray, List.getElem_cons_succ, List.getElem_cons_zero, List.setIfInBounds_toArray, List.set_cons_zero, List.set_cons_succ]
      refine fld_taken (v := ?_) rfl (by rfl) (fun w' hw' => ?_) ?_
      rotate_left
      · (go_simp <;> with_reducible rfl)
      simp only [Act.put, List.getElem_toArray, List.getElem_cons_succ, List.getElem_cons_zero, List.setIfInBounds_toArray, List.set_cons_zero, List.set_cons_succ]
      refine fld_taken (v := ?_) rfl (by rfl) (fun w' hw' => ?_) ?_
      rotate_left
      · (go_simp <;> with_reducible rfl)
      simp only [Act.put, List.getElem_toArray, List.getElem_cons_succ, List.getElem_cons_zero, List.setIfInBounds_toArray, List.set_cons_zero, List.set_cons_succ]
      refine fld_taken (v := ?_) rfl (by rfl) (fun w' hw' => ?_) ?_
      rotate_left
      · (go_simp <;> with_reducible rfl)
      simp only [Act.put, List.getElem_toArray, List.getElem_cons_succ, List.getElem_cons_zero, List.setIfInBounds_toArray, List.set_cons_zero, List.set_cons_succ]
      refine fld_taken (v := ?_) rfl (by rfl) (fun w' hw' => ?_) ?_
      rotate_left
      · (go_simp <;> with_reducible rfl)
      simp only [Act.put, List.getElem_toArray, List.getElem_cons_succ, List.getElem_cons_zero, List.setIfInBounds_toArray, List.set_cons_zero, List.set_cons_succ]
      refine fld_skipped rfl (by rfl) ?_
      simp only [Act.put, List.getElem_toArray, List.getElem_cons_succ, List.getElem_cons_zero, List.setIfInBounds_toArray, List.set_cons_zero, List.set_cons_succ]
      refine fld_skipped rfl (by rfl) ?_
      simp only [Act.put, List.getElem_toArray, List.getElem_cons_succ, List.getElem_cons_zero, List.setIfInBounds_toArray, List.set_cons_zero, List.set_cons_succ]
      refine fld_skipped rfl (by rfl) ?_
      simp only [Act.put, List.getElem_toArray, List.getElem_cons_succ, List.getElem_cons_zero, List.setIfInBounds_toArray, List.set_cons_zero, List.set_cons_succ]
      refine fld_skipped rfl (by rfl) ?_
      simp only [Act.put, List.getElem_toArray, List.getElem_cons_succ, List.getElem_cons_zero, List.setIfInBounds_toArray, List.set_cons_zero, List.set_cons_succ]
      refine fld_skipped rfl (by rfl) ?_
      simp only [Act.put, List.getElem_toArray, List.getElem_cons_succ, List.getElem_cons_zero, List.setIfInBounds_toArray, List.set_cons_zero, List.set_cons_succ]
      refine fld_skipped rfl (by rfl) ?_
      simp only [Act.put, List.getElem_toArray, List.getElem_cons_succ, List.getElem_cons_zero, List.setIfInBounds_toArray, List.set_cons_zero, List.set_cons_succ]
      refine fld_skipped rfl (by rfl) ?_
      simp only [Act.put, List.getElem_toArray, List.getElem_cons_succ, List.getElem_cons_zero, List.setIfInBounds_toArray, List.set_cons_zero, List.set_cons_succ]
      refine fld_skipped rfl (by rfl) ?_
      simp only [Act.put, List.getElem_toArray, List.getElem_cons_succ, List.getElem_cons_zero, List.setIfInBounds_toArray, List.set_cons_zero, List.set_cons_succ]
      refine fld_skipped rfl (by rfl) ?_
      simp only [Act.put, List.getElem_toArray, List.getElem_cons_succ, List.getElem_cons_zero, List.setIfInBounds_toArray, List.set_cons_zero, List.set_cons_succ]
      refine fld_skipped rfl (by rfl) ?_
      simp only [Act.put, List.getElem_toArray, List.getElem_cons_succ, List.getElem_cons_zero, List.setIfInBounds_toArray, List.set_cons_zero, List.set_cons_succ]
      refine fld_taken (v := ?_) rfl (by rfl) (fun w' hw' => ?_) ?_
      rotate_left
      · (go_simp <;> with_reducible rfl)
      simp only [Act.put, List.getElem_toArray, List.getElem_cons_succ, List.getElem_cons_zero, List.setIfInBounds_toArray, List.set_cons_zero, List.set_cons_succ]
      refine fld_taken (v := ?_) rfl (by rfl) (fun w' hw' => ?_) ?_
      rotate_left
      · (go_simp <;> with_reducible rfl)
      simp only [Act.put, List.getElem_toArray, List.getElem_cons_succ, List.getElem_cons_zero, List.setIfInBounds_toArray, List.set_cons_zero, List.set_cons_succ]
      refine fld_taken_nil ?_
      refine fld_alone (i := 19) (by kernel_rfl) rfl (by rfl) (fun K hK => ?_)
      go_simp
      refine (qwakes_any V8).mono ?_
      rintro e V10 ⟨rfl, hb⟩
      have h10 := h0.trans (hb.mono h0.size)
      clear hb
      go_wp2_with fail
      refine hK.out _ _ h10 ?_
      clear hK K
      refine fld_takes [20, 21] _ 0 _ _ _ (by kernel_rfl) (fun _ d _ _ _ h => by cases d <;> exact h) (by rfl) (by kernel_rfl) (by assumption) ?_
      refine fld_taken (v := ?_) rfl (by rfl) (fun w' hw' => ?_) ?_
      rotate_left
      · (go_simp <;> with_reducible rfl)
      simp only [Act.put, List.getElem_toArray, List.getElem_cons_succ, List.getElem_cons_zero, List.setIfInBounds_toArray, List.set_cons_zero, List.set_cons_succ]
      refine fld_taken (v := ?_) rfl (by rfl) (fun w' hw' => ?_) ?_
      rotate_left
      · (go_simp <;> with_reducible rfl)
      simp only [Act.put, List.getElem_toArray, List.getElem_cons_succ, List.getElem_cons_zero, List.setIfInBounds_toArray, List.set_cons_zero, List.set_cons_succ]
      refine fld_taken_nil ?_
      refine wpAnyH_done (by kernel_rfl) ?_ _
      have hfin := b7.trans (h10.mono b7.size)
      go_wp2
      go_ret
      exact ⟨rfl, hfin⟩
  · rcases HF.out with rfl | rfl
    · obtain ⟨W7, hW7⟩ : ∃ W, W = W6.alloc (.cells #[.int .i64 70, .int .i64 0] 32) := ⟨_, rfl⟩
      have bl : Below W6.heap.size W6 W7 := by rw [hW7]; exact below_new _
      have b7 := b6.trans (bl.mono b6.size)
      have v77 := v76.below bl v76.lt
      have v67 := v6.below bl v6.lt
      have i7 := (i6.below bl).up bl.size
      have j7 := (j6.below bl).up bl.size
      have hs7 := (hs6.below bl).up bl.size
      have HW7 := Lib.hid hW7
      clear hW7 bl b6 v76 v6 i6 j6 hs6
      go_wp2
      refine wp_loop_rounds 3 ?_
      rw [rounds_succ]
      go_wp2
      rw [rounds_succ]
      go_wp2
      rw [rounds_succ]
      go_upto_region 14 with fail
      rw [← HW7.out]
      clear HW7
      have HYY : Hid (YIs y (bs.set k c0) 0) := by
        have e2 := HY.out.ok.1
        rw [bytesOf_mk] at e2
        exact .inl ⟨HY.out.ok.2, e2, rfl⟩
      go_wp2_with (refine wpList_load_var rfl _ rfl Tryd.underlying30 rfl rfl v67 (by simp only [qvals]; kernel_rfl) ?_)
      refine (qbytes_any y A2 n2 c2 W7.heap.size (bs.set k c0) 0 W7 j7 (Nat.le_refl _) HY.out.range HYY.out).mono ?_
      rintro e W8 ⟨hb8, A8, c8, l8, rfl, hl8, hs8, -⟩
      have b8 := b7.trans (hb8.mono b7.size)
      have v78 := v77.below hb8 v77.lt
      have v68 := v67.below hb8 v67.lt
      have i8 := (i7.below hb8).up hb8.size
      have j8 := (j7.below hb8).up hb8.size
      have hs88 := (hs7.below hb8).up hb8.size
      obtain ⟨T, hT⟩ : ∃ T : ByteArray, T = ⟨(bs.set k c0).toArray⟩ := ⟨_, rfl⟩
      have st1 := str_now hs8 31 9 5 l8 c8 hl8 Tryd.underlying31 Tryd.underlying5 Tryd.underlying9
      have st2 := str_now hs88 31 9 5 l c9 (by rw [List.length_set]; exact HL.out) Tryd.underlying31 Tryd.underlying5 Tryd.underlying9
      rw [← hT] at st1 st2
      have eT : (T.toList == T.toList) = true := by simp
      have eN : (T.toList != T.toList) = false := by simp
      clear hT hb8 hl8 hs8 hs88 hs7 v77 v67 i7 j7
      go_wp2_with (refine wpList_load_want (by rfl) _ rfl Tryd.underlying30 rfl rfl v68 (by simp only [qvals]; kernel_rfl) ?_)
      refine (qmay_any y A2 n2 c2 W8.heap.size true W8 j8 (Nat.le_refl _) HY.out.range ⟨fun _ => HY.out.ok.2, fun _ => rfl⟩).mono ?_
      rintro e W9 ⟨rfl, hb9⟩
      have b9 := b8.trans (hb9.mono b8.size)
      have v79 := v78.below hb9 v78.lt
      have v69 := v68.below hb9 v68.lt
      have i9 := (i8.below hb9).up hb9.size
      have j9 := (j8.below hb9).up hb9.size
      clear st1 st2 eT eN b8 v78 v68 i8 j8 hb9
      go_upto_region 18 with fail
      have h0 : Below W9.heap.size W9 W9.drew := (Below.refl _ _).drew
      refine wp_region_held_drew (S := fun w' => Below W9.heap.size W9 w') (by kernel_rfl) h0 (fun hHeld => ?_)
      generalize W9.drew = V8 at h0 hHeld ⊢
      clear hHeld
      refine fld_takes [0, 1, 2, 3, 4, 5, 6, 7, 8, 9, 10, 11, 12, 13, 14, 15, 16, 17, 18] _ 3 _ _ _ (by kernel_rfl) (fun _ d _ _ _ h => by cases d <;> exact h) (by rfl) (by kernel_rfl) (by assumption) ?_
      refine fld_taken (v := ?_) rfl (by rfl) (fun w' hw' => ?_) ?_
      rotate_left
      · (go_simp <;> with_reducible rfl)
      simp only [Act.put, List.getElem_toArray, List.getElem_cons_zero, List.setIfInBounds_toArray, List.set_cons_zero, List.set_cons_succ]
      refine fld_taken (v := ?_) rfl (by rfl) (fun w' hw' => ?_) ?_
      rotate_left
      · (go_simp <;> with_reducible rfl)
      simp only [Act.put, List.getElem_toArray, List.getElem_cons_succ, List.getElem_cons_zero, List.setIfInBounds_toArray, List.set_cons_zero, List.set_cons_succ]
      refine fld_taken (v := ?_) rfl (by rfl) (fun w' hw' => ?_) ?_
      rotate_left
      · (go_simp <;> with_reducible rfl)
      simp only [Act.put, List.getElem_toArray, List.getElem_cons_succ, List.getElem_cons_zero, List.setIfInBounds_toArray, List.set_cons_zero, List.set_cons_succ]
      refine fld_skipped rfl (by rfl) ?_
      simp only [Act.put, List.getElem_toArray, List.getElem_cons_succ, List.getElem_cons_zero, List.setIfInBounds_toArray, List.set_cons_zero, List.set_cons_succ]
      refine fld_skipped rfl (by rfl) ?_
      simp only [Act.put, List.getElem_toArray, List.getElem_cons_succ, List.getElem_cons_zero, List.setIfInBounds_toArray, List.set_cons_zero, List.set_cons_succ]
      refine fld_taken (v := ?_) rfl (by rfl) (fun w' hw' => ?_) ?_
      rotate_left
      · (go_simp <;> with_reducible rfl)
      simp only [Act.put, List.getElem_toArray, List.getElem_cons_succ, List.getElem_cons_zero, List.setIfInBounds_toArray, List.set_cons_zero, List.set_cons_succ]
      refine fld_taken (v := ?_) rfl (by rfl) (fun w' hw' => ?_) ?_
      rotate_left
      · (go_simp <;> with_reducible rfl)
      simp only [Act.put, List.getElem_toArray, List.getElem_cons_succ, List.getElem_cons_zero, List.setIfInBounds_toArray, List.set_cons_zero, List.set_cons_succ]
      refine fld_skipped rfl (by rfl) ?_
      simp only [Act.put, List.getElem_toArray, List.getElem_cons_succ, List.getElem_cons_zero, List.setIfInBounds_toArray, List.set_cons_zero, List.set_cons_succ]
      refine fld_skipped rfl (by rfl) ?_
      simp only [Act.put, List.getElem_toArray, List.getElem_cons_succ, List.getElem_cons_zero, List.setIfInBounds_toArray, List.set_cons_zero, List.set_cons_succ]
      refine fld_skipped rfl (by rfl) ?_
      simp only [Act.put, List.getElem_toArray, List.getElem_cons_succ, List.getElem_cons_zero, List.setIfInBounds_toArray, List.set_cons_zero, List.set_cons_succ]
      refine fld_skipped rfl (by rfl) ?_
      simp only [Act.put, List.getElem_toArray, List.getElem_cons_succ, List.getElem_cons_zero, List.setIfInBounds_toArray, List.set_cons_zero, List.set_cons_succ]
      refine fld_skipped rfl (by rfl) ?_
      simp only [Act.put, List.getElem_toArray, List.getElem_cons_succ, List.getElem_cons_zero, List.setIfInBounds_toArray, List.set_cons_zero, List.set_cons_succ]
      refine fld_skipped rfl (by rfl) ?_
      simp only [Act.put, List.getElem_toArray, List.getElem_cons_succ, List.getElem_cons_zero, List.setIfInBounds_toArray, List.set_cons_zero, List.set_cons_succ]
      refine fld_skipped rfl (by rfl) ?_
      simp only [Act.put, List.getElem_toArray, List.getElem_cons_succ, List.getElem_cons_zero, List.setIfInBounds_toArray, List.set_cons_zero, List.set_cons_succ]
      refine fld_skipped rfl (by rfl) ?_
      simp only [Act.put, List.getElem_toArray, List.getElem_cons_succ, List.getElem_cons_zero, List.setIfInBounds_toArray, List.set_cons_zero, List.set_cons_succ]
      refine fld_skipped rfl (by rfl) ?_
      simp only [Act.put, List.getElem_toArray, List.getElem_cons_succ, List.getElem_cons_zero, List.setIfInBounds_toArray, List.set_cons_zero, List.set_cons_succ]
      refine fld_skipped rfl (by rfl) ?_
      simp only [Act.put, List.getElem_toArray, List.getElem_cons_succ, List.getElem_cons_zero, List.setIfInBounds_toArray, List.set_cons_zero, List.set_cons_succ]
      refine fld_taken (v := ?_) rfl (by rfl) (fun w' hw' => ?_) ?_
      rotate_left
      · (go_simp <;> with_reducible rfl)
      simp only [Act.put, List.getElem_toArray, List.getElem_cons_succ, List.getElem_cons_zero, List.setIfInBounds_toArray, List.set_cons_zero, List.set_cons_succ]
      refine fld_taken (v := ?_) rfl (by rfl) (fun w' hw' => ?_) ?_
      rotate_left
      · (go_simp <;> with_reducible rfl)
      simp only [Act.put, List.getElem_toArray, List.getElem_cons_succ, List.getElem_cons_zero, List.setIfInBounds_toArray, List.set_cons_zero, List.set_cons_succ]
      refine fld_taken_nil ?_
      refine fld_alone (i := 19) (by kernel_rfl) rfl (by rfl) (fun K hK => ?_)
      go_simp
      refine (qwakes_any V8).mono ?_
      rintro e V10 ⟨rfl, hb⟩
      have h10 := h0.trans (hb.mono h0.size)
      clear hb
      go_wp2_with fail
      refine hK.out _ _ h10 ?_
      clear hK K
      refine fld_takes [20, 21] _ 0 _ _ _ (by kernel_rfl) (fun _ d _ _ _ h => by cases d <;> exact h) (by rfl) (by kernel_rfl) (by assumption) ?_
      refine fld_taken (v := ?_) rfl (by rfl) (fun w' hw' => ?_) ?_
      rotate_left
      · (go_simp <;> with_reducible rfl)
      simp only [Act.put, List.getElem_toArray, List.getElem_cons_succ, List.getElem_cons_zero, List.setIfInBounds_toArray, List.set_cons_zero, List.set_cons_succ]
      refine fld_taken (v := ?_) rfl (by rfl) (fun w' hw' => ?_) ?_
      rotate_left
      · (go_simp <;> with_reducible rfl)
      simp only [Act.put, List.getElem_toArray, List.getElem_cons_succ, List.getElem_cons_zero, List.setIfInBounds_toArray, List.set_cons_zero, List.set_cons_succ]
      refine fld_taken_nil ?_
      refine wpAnyH_done (by kernel_rfl) ?_ _
      have hfin := b9.trans (h10.mono b9.size)
      go_wp2
      go_ret
      exact ⟨rfl, hfin⟩
    · obtain ⟨W7, hW7⟩ : ∃ W, W = W6.alloc (.cells #[.int .i64 70, .int .i64 70] 32) := ⟨_, rfl⟩
      have bl : Below W6.heap.size W6 W7 := by rw [hW7]; exact below_new _
      have b7 := b6.trans (bl.mono b6.size)
      have v77 := v76.below bl v76.lt
      have v67 := v6.below bl v6.lt
      have i7 := (i6.below bl).up bl.size
      have j7 := (j6.below bl).up bl.size
      have hs7 := (hs6.below bl).up bl.size
      have HW7 := Lib.hid hW7
      clear hW7 bl b6 v76 v6 i6 j6 hs6
      go_wp2
      refine wp_loop_rounds 3 ?_
      rw [rounds_succ]
      go_wp2
      rw [rounds_succ]
      go_wp2
      rw [rounds_succ]
      go_upto_region 14 with fail
      rw [← HW7.out]
      clear HW7
      clear hs7
      go_upto_region 18 with fail
      have h0 : Below W7.heap.size W7 W7.drew := (Below.refl _ _).drew
      refine wp_region_held_drew (S := fun w' => Below W7.heap.size W7 w') (by kernel_rfl) h0 (fun hHeld => ?_)
      generalize W7.drew = V8 at h0 hHeld ⊢
      clear hHeld
      refine fld_takes [0, 1, 2, 3, 4, 5, 6, 7, 8, 9, 10, 11, 12, 13, 14, 15, 16, 17, 18] _ 3 _ _ _ (by kernel_rfl) (fun _ d _ _ _ h => by cases d <;> exact h) (by rfl) (by kernel_rfl) (by assumption) ?_
      refine fld_taken (v := ?_) rfl (by rfl) (fun w' hw' => ?_) ?_
      rotate_left
      · (go_simp <;> with_reducible rfl)
      simp only [Act.put, List.getElem_toArray, List.getElem_cons_zero, List.setIfInBounds_toArray, List.set_cons_zero, List.set_cons_succ]
      refine fld_taken (v := ?_) rfl (by rfl) (fun w' hw' => ?_) ?_
      rotate_left
      · (go_simp <;> with_reducible rfl)
      simp only [Act.put, List.getElem_toArray, List.getElem_cons_succ, List.getElem_cons_zero, List.setIfInBounds_toArray, List.set_cons_zero, List.set_cons_succ]
      refine fld_taken (v := ?_) rfl (by rfl) (fun w' hw' => ?_) ?_
      rotate_left
      · (go_simp <;> with_reducible rfl)
      simp only [Act.put, List.getElem_toArray, List.getElem_cons_succ, List.getElem_cons_zero, List.setIfInBounds_toArray, List.set_cons_zero, List.set_cons_succ]
      refine fld_skipped rfl (by rfl) ?_
      simp only [Act.put, List.getElem_toArray, List.getElem_cons_succ, List.getElem_cons_zero, List.setIfInBounds_toArray, List.set_cons_zero, List.set_cons_succ]
      refine fld_skipped rfl (by rfl) ?_
      simp only [Act.put, List.getElem_toArray, List.getElem_cons_succ, List.getElem_cons_zero, List.setIfInBounds_toArray, List.set_cons_zero, List.set_cons_succ]
      refine fld_taken (v := ?_) rfl (by rfl) (fun w' hw' => ?_) ?_
      rotate_left
      · (go_simp <;> with_reducible rfl)
      simp only [Act.put, List.getElem_toArray, List.getElem_cons_succ, List.getElem_cons_zero, List.setIfInBounds_toArray, List.set_cons_zero, List.set_cons_succ]
      refine fld_taken (v := ?_) rfl (by rfl) (fun w' hw' => ?_) ?_
      rotate_left
      · (go_simp <;> with_reducible rfl)
      simp only [Act.put, List.getElem_toArray, List.getElem_cons_succ, List.getElem_cons_zero, List.setIfInBounds_toArray, List.set_cons_zero, List.set_cons_succ]
      refine fld_skipped rfl (by rfl) ?_
      simp only [Act.put, List.getElem_toArray, List.getElem_cons_succ, List.getElem_cons_zero, List.setIfInBounds_toArray, List.set_cons_zero, List.set_cons_succ]
      refine fld_skipped rfl (by rfl) ?_
      simp only [Act.put, List.getElem_toArray, List.getElem_cons_succ, List.getElem_cons_zero, List.setIfInBounds_toArray, List.set_cons_zero, List.set_cons_succ]
      refine fld_skipped rfl (by rfl) ?_
      simp only [Act.put, List.getElem_toArray, List.getElem_cons_succ, List.getElem_cons_zero, List.setIfInBounds_toArray, List.set_cons_zero, List.set_cons_succ]
      refine fld_skipped rfl (by rfl) ?_
      simp only [Act.put, List.getElem_toArray, List.getElem_cons_succ, List.getElem_cons_zero, List.setIfInBounds_toArray, List.set_cons_zero, List.set_cons_succ]
      refine fld_skipped rfl (by rfl) ?_
      simp only [Act.put, List.getElem_toArray, List.getElem_cons_succ, List.getElem_cons_zero, List.setIfInBounds_toArray, List.set_cons_zero, List.set_cons_succ]
      refine fld_skipped rfl (by rfl) ?_
      simp only [Act.put, List.getElem_toArray, List.getElem_cons_succ, List.getElem_cons_zero, List.setIfInBounds_toArray, List.set_cons_zero, List.set_cons_succ]
      refine fld_skipped rfl (by rfl) ?_
      simp only [Act.put, List.getElem_toArray, List.getElem_cons_succ, List.getElem_cons_zero, List.setIfInBounds_toArray, List.set_cons_zero, List.set_cons_succ]
      refine fld_skipped rfl (by rfl) ?_
      simp only [Act.put, List.getElem_toArray, List.getElem_cons_succ, List.getElem_cons_zero, List.setIfInBounds_toArray, List.set_cons_zero, List.set_cons_succ]
      refine fld_skipped rfl (by rfl) ?_
      simp only [Act.put, List.getElem_toArray, List.getElem_cons_succ, List.getElem_cons_zero, List.setIfInBounds_toArray, List.set_cons_zero, List.set_cons_succ]
      refine fld_skipped rfl (by rfl) ?_
      simp only [Act.put, List.getElem_toArray, List.getElem_cons_succ, List.getElem_cons_zero, List.setIfInBounds_toArray, List.set_cons_zero, List.set_cons_succ]
      refine fld_taken (v := ?_) rfl (by rfl) (fun w' hw' => ?_) ?_
      rotate_left
      · (go_simp <;> with_reducible rfl)
      simp only [Act.put, List.getElem_toArray, List.getElem_cons_succ, List.getElem_cons_zero, List.setIfInBounds_toArray, List.set_cons_zero, List.set_cons_succ]
      refine fld_taken (v := ?_) rfl (by rfl) (fun w' hw' => ?_) ?_
      rotate_left
      · (go_simp <;> with_reducible rfl)
      simp only [Act.put, List.getElem_toArray, List.getElem_cons_succ, List.getElem_cons_zero, List.setIfInBounds_toArray, List.set_cons_zero, List.set_cons_succ]
      refine fld_taken_nil ?_
      refine fld_alone (i := 19) (by kernel_rfl) rfl (by rfl) (fun K hK => ?_)
      go_simp
      refine (qwakes_any V8).mono ?_
      rintro e V10 ⟨rfl, hb⟩
      have h10 := h0.trans (hb.mono h0.size)
      clear hb
      go_wp2_with fail
      refine hK.out _ _ h10 ?_
      clear hK K
      refine fld_takes [20, 21] _ 0 _ _ _ (by kernel_rfl) (fun _ d _ _ _ h => by cases d <;> exact h) (by rfl) (by kernel_rfl) (by assumption) ?_
      refine fld_taken (v := ?_) rfl (by rfl) (fun w' hw' => ?_) ?_
      rotate_left
      · (go_simp <;> with_reducible rfl)
      simp only [Act.put, List.getElem_toArray, List.getElem_cons_succ, List.getElem_cons_zero, List.setIfInBounds_toArray, List.set_cons_zero, List.set_cons_succ]
      refine fld_taken (v := ?_) rfl (by rfl) (fun w' hw' => ?_) ?_
      rotate_left
      · (go_simp <;> with_reducible rfl)
      simp only [Act.put, List.getElem_toArray, List.getElem_cons_succ, List.getElem_cons_zero, List.setIfInBounds_toArray, List.set_cons_zero, List.set_cons_succ]
      refine fld_taken_nil ?_
      refine wpAnyH_done (by kernel_rfl) ?_ _
      have hfin := b7.trans (h10.mono b7.size)
      go_wp2
      go_ret
      exact ⟨rfl, hfin⟩
end Go.Proofs.YtfcifblbapadpaaDoor
