/-
  The law DiskApart: its main way. Conditions: those that each theorem names.
-/
import Derived.Test.YtbglpmjfajmkdaaDoorDskApartA
import Derived.Deep.RegionHeld3
namespace Go.Proofs.YtbglpmjfajmkdaaDoor
open Go.RowKit DP

set_option maxRecDepth 100000 in
set_option maxHeartbeats 8000000 in
theorem apart_main (A : Option Addr) (n c : Nat) (fs : List Fl) (cap left : Int) (down : Bool) (vo : Int) (vf vb : ByteArray) (vn wo : Int) (wf wb : ByteArray) (wn : Int) (w : World) (hn : fs.length = n) (hs : Seen w w.heap.size A (fcells fs)) (hmax : n ≤ 9223372036854775807) (hsz : ∀ f ∈ fs, f.b.size ≤ 9223372036854775807 ∧ f.n.size ≤ 9223372036854775807) (hvs : vb.size ≤ 9223372036854775807 ∧ vf.size ≤ 9223372036854775807) (hws : wb.size ≤ 9223372036854775807 ∧ wf.size ≤ 9223372036854775807) (hG : Glob w) (hlb : -9223372036854775808 ≤ left) (hgr : great ⟨fs, cap, left, down⟩ = false) (hgw : greatW [⟨vo, vf, vb, vn⟩, ⟨wo, wf, wb, wn⟩] = false) (hc : check ⟨fs, cap, left, down⟩ = true) (hvw : vf ≠ wf) (h62 : n ≤ 62) (hd : down = false) (hl : left < 0) :
    Calls Tryd.prog 6 #[.agg #[.slice A n c, .int .i64 cap, .int .i64 left, .bool down], .agg #[.int .i8 vo, .string vf, .string vb, .int .i64 vn], .agg #[.int .i8 wo, .string wf, .string wb, .int .i64 wn]] w fun e w' => e = .returned (.bool true) ∧ Below w.heap.size w w' := by
  have HG := Lib.hid hG
  have HN := Lib.hid hn
  have HSZ : Hid (∀ x ∈ [(⟨vo, vf, vb, vn⟩ : Wr), ⟨wo, wf, wb, wn⟩], x.b.size ≤ 9223372036854775807 ∧ x.file.size ≤ 9223372036854775807) := by
    intro x hx
    rcases List.mem_cons.1 hx with rfl | hx
    · exact hvs
    · obtain rfl := List.mem_singleton.1 hx
      exact hws
  clear hG hn
  have HGR := Lib.hid hgr
  have HGW := Lib.hid hgw
  have hsm : Small fs := apart_small _ hgr
  have HCC := Lib.hid hc
  have HC : Hid (code (check ⟨fs, cap, left, down⟩) = 0) := by show _ = _; rw [hc]; rfl
  have hvb : vb.size ≤ 4096 := ((greatW_parts hgw).2 _ (List.mem_cons_self ..)).1
  have hwb : wb.size ≤ 4096 := ((greatW_parts hgw).2 _ (List.mem_cons_of_mem _ (List.mem_singleton.2 rfl))).1
  have hub : used fs ≤ 40000000 := by have := used_bound hsm fs.length; rw [List.take_length] at this; omega
  obtain ⟨u, hu⟩ : ∃ u, used fs = u := ⟨_, rfl⟩
  rw [hu] at hub
  have HU := Lib.hid hu
  obtain ⟨v1, hv1⟩ : ∃ v1, v1 = u + vb.size := ⟨_, rfl⟩
  obtain ⟨v2, hv2⟩ : ∃ v2, v2 = v1 + wb.size := ⟨_, rfl⟩
  have w1_ : IntKind.i64.wrap ((u : Int) + (vb.size : Int)) = (v1 : Int) := by rw [IntWalk.i64_in _ (by omega)]; omega
  have w2_ : IntKind.i64.wrap ((v1 : Int) + (wb.size : Int)) = (v2 : Int) := by rw [IntWalk.i64_in _ (by omega)]; omega
  have HV : Hid ((v2 : Int) = (used fs : Int) + vb.size + wb.size) := by show _ = _; omega
  obtain ⟨bcap, t3⟩ : ∃ bcap, decide (cap < (v2 : Int)) = bcap := ⟨_, rfl⟩
  have HCAP := Lib.hid t3
  have z1 : (vf.toList == wf.toList) = false := eqS_not.2 hvw
  have t1 : decide ((62 : Int) < (n : Int)) = false := bool_dec _ (by omega)
  have t2 : decide (0 ≤ left) = false := bool_dec _ (by omega)
  subst hd
  obtain ⟨fsa, capa, lefta, downa, ra, hra⟩ : ∃ fs' cap' left' down' r', does ⟨fs, cap, left, false⟩ ⟨vo, vf, vb, vn⟩ = (⟨fs', cap', left', down'⟩, r') := ⟨_, _, _, _, _, rfl⟩
  obtain ⟨fsb, capb, leftb, downb, rb, hrb⟩ : ∃ fs' cap' left' down' r', does ⟨fs, cap, left, false⟩ ⟨wo, wf, wb, wn⟩ = (⟨fs', cap', left', down'⟩, r') := ⟨_, _, _, _, _, rfl⟩
  have HA := Lib.hid hra
  have HB := Lib.hid hrb
  clear hgr hgw hc hu hv1 hv2 hra hrb
  go_enter Tryd.func6, Tryd.ntmps6
  go_wp2_with fail
  obtain ⟨W0, hW0⟩ : ∃ W0, W0 = ((w.alloc (.cells #[.slice A n c, .int .i64 cap, .int .i64 left, .bool false] 24)).alloc (.cells #[.int .i8 vo, .string vf, .string vb, .int .i64 vn] 27)).alloc (.cells #[.int .i8 wo, .string wf, .string wb, .int .i64 wn] 27) := ⟨_, rfl⟩
  have h0 : Three A n c fs cap left false vo vf vb vn wo wf wb wn w W0 := by rw [hW0]; exact Three.start hs
  rw [← hW0]
  clear hW0
  have hkeep : ∀ W, Three A n c fs cap left false vo vf vb vn wo wf wb wn w W → (fun w' => w'.cell? ⟨w.heap.size, 0, none⟩ = some (.slice A n c) ∧ w'.cell? ⟨w.heap.size, 1, none⟩ = some (.int .i64 cap) ∧ w'.cell? ⟨w.heap.size, 2, none⟩ = some (.int .i64 left) ∧ w'.cell? ⟨w.heap.size, 3, none⟩ = some (.bool false) ∧
      w'.cell? ⟨w.heap.size + 1, 0, none⟩ = some (.int .i8 vo) ∧ w'.cell? ⟨w.heap.size + 1, 1, none⟩ = some (.string vf) ∧ w'.cell? ⟨w.heap.size + 1, 2, none⟩ = some (.string vb) ∧ w'.cell? ⟨w.heap.size + 1, 3, none⟩ = some (.int .i64 vn) ∧
      w'.cell? ⟨w.heap.size + 1 + 1, 0, none⟩ = some (.int .i8 wo) ∧ w'.cell? ⟨w.heap.size + 1 + 1, 1, none⟩ = some (.string wf) ∧ w'.cell? ⟨w.heap.size + 1 + 1, 2, none⟩ = some (.string wb) ∧ w'.cell? ⟨w.heap.size + 1 + 1, 3, none⟩ = some (.int .i64 wn)) W := fun W h => ⟨h.d.cell 0 rfl, h.d.cell 1 rfl, h.d.cell 2 rfl, h.d.cell 3 rfl, h.v.cell 0 rfl, h.v.cell 1 rfl, h.v.cell 2 rfl, h.v.cell 3 rfl, h.u.cell 0 rfl, h.u.cell 1 rfl, h.u.cell 2 rfl, h.u.cell 3 rfl⟩
  have HK := Lib.hid hkeep
  have h1 : Three A n c fs cap left false vo vf vb vn wo wf wb wn w W0.drew := h0.next (Below.refl _ W0).drew
  clear hkeep h0
  refine wp_region_held_drew (S := (fun w' => w'.cell? ⟨w.heap.size, 0, none⟩ = some (.slice A n c) ∧ w'.cell? ⟨w.heap.size, 1, none⟩ = some (.int .i64 cap) ∧ w'.cell? ⟨w.heap.size, 2, none⟩ = some (.int .i64 left) ∧ w'.cell? ⟨w.heap.size, 3, none⟩ = some (.bool false) ∧
      w'.cell? ⟨w.heap.size + 1, 0, none⟩ = some (.int .i8 vo) ∧ w'.cell? ⟨w.heap.size + 1, 1, none⟩ = some (.string vf) ∧ w'.cell? ⟨w.heap.size + 1, 2, none⟩ = some (.string vb) ∧ w'.cell? ⟨w.heap.size + 1, 3, none⟩ = some (.int .i64 vn) ∧
      w'.cell? ⟨w.heap.size + 1 + 1, 0, none⟩ = some (.int .i8 wo) ∧ w'.cell? ⟨w.heap.size + 1 + 1, 1, none⟩ = some (.string wf) ∧ w'.cell? ⟨w.heap.size + 1 + 1, 2, none⟩ = some (.string wb) ∧ w'.cell? ⟨w.heap.size + 1 + 1, 3, none⟩ = some (.int .i64 wn))) (by kernel_rfl) (HK.out _ h1) (fun hHeld => ?_)
  refine wpAnyH_take (i := 0) (v := ?_) rfl (by kernel_rfl) (by kernel_rfl) (by kernel_rfl) (fun _ _ _ h => h) (Or.inl ⟨by rfl, ?_⟩) (by assumption) ?_
  rotate_left
  · intro w hSw
    (try dsimp only at hSw)
    simp only [List.getElem_toArray, List.getElem_cons_zero]
    go_simp
    try with_reducible rfl
  try simp only [Act.put, List.getElem_toArray, List.getElem_cons_zero, List.setIfInBounds_toArray, List.set_cons_zero, List.set_cons_succ]
  refine wpAnyH_ready (rs := [1]) (by kernel_rfl) (by simp) ?_
  refine AllReadyH.cons rfl (fun K hK => ?_) AllReadyH.nil
  rw [if_pos (by rfl)]
  simp only [List.getElem_toArray, List.getElem_cons_succ, List.getElem_cons_zero]
  go_simp
  refine (great_any A n c w.heap.size fs cap left false false _ HN.out HGR.out h1.s h1.b.size hmax hsz).mono ?_
  rintro e W2 ⟨rfl, hx⟩
  have h2 := h1.next hx
  clear hx h1 hHeld
  refine hK.out _ _ ?_ (fun hHeld => ?_)
  · exact HK.out _ h2
  clear hK K
  try simp only [Act.put, List.getElem_toArray, List.getElem_cons_succ, List.getElem_cons_zero, List.setIfInBounds_toArray, List.set_cons_zero, List.set_cons_succ]
  refine wpAnyH_take (i := 2) (v := ?_) rfl (by kernel_rfl) (by kernel_rfl) (by kernel_rfl) (fun _ _ _ h => h) (Or.inl ⟨by rfl, ?_⟩) (by assumption) ?_
  rotate_left
  · intro w hSw
    (try dsimp only at hSw)
    simp only [List.getElem_toArray, List.getElem_cons_succ, List.getElem_cons_zero]
    go_simp
    try with_reducible rfl
  try simp only [Act.put, List.getElem_toArray, List.getElem_cons_succ, List.getElem_cons_zero, List.setIfInBounds_toArray, List.set_cons_zero, List.set_cons_succ]
  refine wpAnyH_take (i := 3) (v := ?_) rfl (by kernel_rfl) (by kernel_rfl) (by kernel_rfl) (fun _ _ _ h => h) (Or.inl ⟨by rfl, ?_⟩) (by assumption) ?_
  rotate_left
  · intro w hSw
    (try dsimp only at hSw)
    simp only [List.getElem_toArray, List.getElem_cons_succ, List.getElem_cons_zero]
    go_simp
    try with_reducible rfl
  try simp only [Act.put, List.getElem_toArray, List.getElem_cons_succ, List.getElem_cons_zero, List.setIfInBounds_toArray, List.set_cons_zero, List.set_cons_succ]
  refine wpAnyH_take (i := 4) (v := ?_) rfl (by kernel_rfl) (by kernel_rfl) (by kernel_rfl) (fun _ _ _ h => h) (Or.inl ⟨by rfl, ?_⟩) (by assumption) ?_
  rotate_left
  · intro w hSw
    (try dsimp only at hSw)
    simp only [List.getElem_toArray, List.getElem_cons_succ, List.getElem_cons_zero]
    go_simp
    try with_reducible rfl
  try simp only [Act.put, List.getElem_toArray, List.getElem_cons_succ, List.getElem_cons_zero, List.setIfInBounds_toArray, List.set_cons_zero, List.set_cons_succ]
  refine wpAnyH_ready (rs := [5]) (by kernel_rfl) (by simp) ?_
  refine AllReadyH.cons rfl (fun K hK => ?_) AllReadyH.nil
  rw [if_pos (by rfl)]
  simp only [List.getElem_toArray, List.getElem_cons_succ, List.getElem_cons_zero]
  go_simp
  refine hK.out _ _ ?_ (fun hHeld => ?_)
  · exact HK.out _ (h2.next (bel1 W2 _ _))
  clear hK K
  try simp only [Act.put, List.getElem_toArray, List.getElem_cons_succ, List.getElem_cons_zero, List.setIfInBounds_toArray, List.set_cons_zero, List.set_cons_succ]
  refine wpAnyH_ready (rs := [6]) (by kernel_rfl) (by simp) ?_
  refine AllReadyH.cons rfl (fun K hK => ?_) AllReadyH.nil
  rw [if_pos (by rfl)]
  simp only [List.getElem_toArray, List.getElem_cons_succ, List.getElem_cons_zero]
  go_simp
  refine (greatW_any (some ⟨W2.heap.size, 0, none⟩) 2 2 (W2.heap.size + 1) [⟨vo, vf, vb, vn⟩, ⟨wo, wf, wb, wn⟩] false _ rfl HGW.out (two_cells vo vf vb vn wo wf wb wn W2 _) (by simp) (by omega) HSZ.out).mono ?_
  rintro e W3 ⟨rfl, hx⟩
  have h3 := (h2.next (bel1 W2 _ _)).next hx
  clear hx h2 hHeld
  refine hK.out _ _ ?_ (fun hHeld => ?_)
  · exact HK.out _ h3
  clear hK K
  try simp only [Act.put, List.getElem_toArray, List.getElem_cons_succ, List.getElem_cons_zero, List.setIfInBounds_toArray, List.set_cons_zero, List.set_cons_succ]
  refine wpAnyH_take (i := 7) (v := ?_) rfl (by kernel_rfl) (by kernel_rfl) (by kernel_rfl) (fun _ _ _ h => h) (Or.inl ⟨by rfl, ?_⟩) (by assumption) ?_
  rotate_left
  · intro w hSw
    (try dsimp only at hSw)
    simp only [List.getElem_toArray, List.getElem_cons_succ, List.getElem_cons_zero]
    go_simp
    try with_reducible rfl
  try simp only [Act.put, List.getElem_toArray, List.getElem_cons_succ, List.getElem_cons_zero, List.setIfInBounds_toArray, List.set_cons_zero, List.set_cons_succ]
  refine wpAnyH_take (i := 8) (v := ?_) rfl (by kernel_rfl) (by kernel_rfl) (by kernel_rfl) (fun _ _ _ h => h) (Or.inl ⟨by rfl, ?_⟩) (by assumption) ?_
  rotate_left
  · intro w hSw
    (try dsimp only at hSw)
    simp only [List.getElem_toArray, List.getElem_cons_succ, List.getElem_cons_zero]
    go_simp
    try with_reducible rfl
  try simp only [Act.put, List.getElem_toArray, List.getElem_cons_succ, List.getElem_cons_zero, List.setIfInBounds_toArray, List.set_cons_zero, List.set_cons_succ]
  refine wpAnyH_take (i := 9) (v := ?_) rfl (by kernel_rfl) (by kernel_rfl) (by kernel_rfl) (fun _ _ _ h => h) (Or.inl ⟨by rfl, ?_⟩) (by assumption) ?_
  rotate_left
  · intro w hSw
    (try dsimp only at hSw)
    simp only [List.getElem_toArray, List.getElem_cons_succ, List.getElem_cons_zero]
    go_simp
    try with_reducible rfl
  try simp only [Act.put, List.getElem_toArray, List.getElem_cons_succ, List.getElem_cons_zero, List.setIfInBounds_toArray, List.set_cons_zero, List.set_cons_succ]
  refine wpAnyH_ready (rs := [10]) (by kernel_rfl) (by simp) ?_
  refine AllReadyH.cons rfl (fun K hK => ?_) AllReadyH.nil
  rw [if_pos (by rfl)]
  simp only [List.getElem_toArray, List.getElem_cons_succ, List.getElem_cons_zero]
  go_simp
  refine (check_any A n c w.heap.size fs cap left false 0 _ HN.out HC.out h3.s h3.b.size hsm).mono ?_
  rintro e W4 ⟨rfl, hx⟩
  have h4 := h3.next hx
  clear hx h3 hHeld
  refine hK.out _ _ ?_ (fun hHeld => ?_)
  · exact HK.out _ h4
  clear hK K
  try simp only [Act.put, List.getElem_toArray, List.getElem_cons_succ, List.getElem_cons_zero, List.setIfInBounds_toArray, List.set_cons_zero, List.set_cons_succ]
  refine wpAnyH_take (i := 11) (v := ?_) rfl (by kernel_rfl) (by kernel_rfl) (by kernel_rfl) (fun _ _ _ h => h) (Or.inl ⟨by rfl, ?_⟩) (by assumption) ?_
  rotate_left
  · intro w hSw
    (try dsimp only at hSw)
    simp only [List.getElem_toArray, List.getElem_cons_succ, List.getElem_cons_zero]
    go_simp
    try with_reducible rfl
  try simp only [Act.put, List.getElem_toArray, List.getElem_cons_succ, List.getElem_cons_zero, List.setIfInBounds_toArray, List.set_cons_zero, List.set_cons_succ]
  refine wpAnyH_take (i := 12) (v := ?_) rfl (by kernel_rfl) (by kernel_rfl) (by kernel_rfl) (fun _ _ _ h => h) (Or.inl ⟨by rfl, ?_⟩) (by assumption) ?_
  rotate_left
  · intro w hSw
    (try dsimp only at hSw)
    simp only [List.getElem_toArray, List.getElem_cons_succ, List.getElem_cons_zero]
    go_simp
    try with_reducible rfl
  try simp only [Act.put, List.getElem_toArray, List.getElem_cons_succ, List.getElem_cons_zero, List.setIfInBounds_toArray, List.set_cons_zero, List.set_cons_succ]
  refine wpAnyH_take (i := 13) (v := ?_) rfl (by kernel_rfl) (by kernel_rfl) (by kernel_rfl) (fun _ _ _ h => h) (Or.inl ⟨by rfl, ?_⟩) (by assumption) ?_
  rotate_left
  · intro w hSw
    (try dsimp only at hSw)
    simp only [List.getElem_toArray, List.getElem_cons_succ, List.getElem_cons_zero]
    go_simp
    try with_reducible rfl
  try simp only [Act.put, List.getElem_toArray, List.getElem_cons_succ, List.getElem_cons_zero, List.setIfInBounds_toArray, List.set_cons_zero, List.set_cons_succ]
  refine wpAnyH_take (i := 14) (v := ?_) rfl (by kernel_rfl) (by kernel_rfl) (by kernel_rfl) (fun _ _ _ h => h) (Or.inl ⟨by rfl, ?_⟩) (by assumption) ?_
  rotate_left
  · intro w hSw
    (try dsimp only at hSw)
    simp only [List.getElem_toArray, List.getElem_cons_succ, List.getElem_cons_zero]
    go_simp
    try with_reducible rfl
  try simp only [Act.put, List.getElem_toArray, List.getElem_cons_succ, List.getElem_cons_zero, List.setIfInBounds_toArray, List.set_cons_zero, List.set_cons_succ]
  refine wpAnyH_take (i := 15) (v := ?_) rfl (by kernel_rfl) (by kernel_rfl) (by kernel_rfl) (fun _ _ _ h => h) (Or.inl ⟨by rfl, ?_⟩) (by assumption) ?_
  rotate_left
  · intro w hSw
    (try dsimp only at hSw)
    simp only [List.getElem_toArray, List.getElem_cons_succ, List.getElem_cons_zero]
    go_simp
    try with_reducible rfl
  try simp only [Act.put, List.getElem_toArray, List.getElem_cons_succ, List.getElem_cons_zero, List.setIfInBounds_toArray, List.set_cons_zero, List.set_cons_succ]
  refine wpAnyH_take (i := 16) (v := ?_) rfl (by kernel_rfl) (by kernel_rfl) (by kernel_rfl) (fun _ _ _ h => h) (Or.inl ⟨by rfl, ?_⟩) (by assumption) ?_
  rotate_left
  · intro w hSw
    (try dsimp only at hSw)
    simp only [List.getElem_toArray, List.getElem_cons_succ, List.getElem_cons_zero]
    go_simp
    try with_reducible rfl
  try simp only [Act.put, List.getElem_toArray, List.getElem_cons_succ, List.getElem_cons_zero, List.setIfInBounds_toArray, List.set_cons_zero, List.set_cons_succ]
  refine wpAnyH_take (i := 17) (v := ?_) rfl (by kernel_rfl) (by kernel_rfl) (by kernel_rfl) (fun _ _ _ h => h) (Or.inl ⟨by rfl, ?_⟩) (by assumption) ?_
  rotate_left
  · intro w hSw
    (try dsimp only at hSw)
    simp only [List.getElem_toArray, List.getElem_cons_succ, List.getElem_cons_zero]
    go_simp
    try with_reducible rfl
  try simp only [Act.put, List.getElem_toArray, List.getElem_cons_succ, List.getElem_cons_zero, List.setIfInBounds_toArray, List.set_cons_zero, List.set_cons_succ]
  refine wpAnyH_take (i := 18) (v := ?_) rfl (by kernel_rfl) (by kernel_rfl) (by kernel_rfl) (fun _ _ _ h => h) (Or.inl ⟨by rfl, ?_⟩) (by assumption) ?_
  rotate_left
  · intro w hSw
    (try dsimp only at hSw)
    simp only [List.getElem_toArray, List.getElem_cons_succ, List.getElem_cons_zero]
    go_simp
    try with_reducible rfl
  try simp only [Act.put, List.getElem_toArray, List.getElem_cons_succ, List.getElem_cons_zero, List.setIfInBounds_toArray, List.set_cons_zero, List.set_cons_succ]
  refine wpAnyH_take (i := 19) (v := ?_) rfl (by kernel_rfl) (by kernel_rfl) (by kernel_rfl) (fun _ _ _ h => h) (Or.inl ⟨by rfl, ?_⟩) (by assumption) ?_
  rotate_left
  · intro w hSw
    (try dsimp only at hSw)
    simp only [List.getElem_toArray, List.getElem_cons_succ, List.getElem_cons_zero]
    go_simp
    try with_reducible rfl
  try simp only [Act.put, List.getElem_toArray, List.getElem_cons_succ, List.getElem_cons_zero, List.setIfInBounds_toArray, List.set_cons_zero, List.set_cons_succ]
  refine wpAnyH_take (i := 20) (v := ?_) rfl (by kernel_rfl) (by kernel_rfl) (by kernel_rfl) (fun _ _ _ h => h) (Or.inl ⟨by rfl, ?_⟩) (by assumption) ?_
  rotate_left
  · intro w hSw
    (try dsimp only at hSw)
    simp only [List.getElem_toArray, List.getElem_cons_succ, List.getElem_cons_zero]
    go_simp
    try with_reducible rfl
  try simp only [Act.put, List.getElem_toArray, List.getElem_cons_succ, List.getElem_cons_zero, List.setIfInBounds_toArray, List.set_cons_zero, List.set_cons_succ]
  refine wpAnyH_take (i := 21) (v := ?_) rfl (by kernel_rfl) (by kernel_rfl) (by kernel_rfl) (fun _ _ _ h => h) (Or.inl ⟨by rfl, ?_⟩) (by assumption) ?_
  rotate_left
  · intro w hSw
    (try dsimp only at hSw)
    simp only [List.getElem_toArray, List.getElem_cons_succ, List.getElem_cons_zero]
    go_simp
    try with_reducible rfl
  try simp only [Act.put, List.getElem_toArray, List.getElem_cons_succ, List.getElem_cons_zero, List.setIfInBounds_toArray, List.set_cons_zero, List.set_cons_succ]
  refine wpAnyH_take (i := 22) (v := ?_) rfl (by kernel_rfl) (by kernel_rfl) (by kernel_rfl) (fun _ _ _ h => h) (Or.inl ⟨by rfl, ?_⟩) (by assumption) ?_
  rotate_left
  · intro w hSw
    (try dsimp only at hSw)
    simp only [List.getElem_toArray, List.getElem_cons_succ, List.getElem_cons_zero]
    go_simp
    try with_reducible rfl
  try simp only [Act.put, List.getElem_toArray, List.getElem_cons_succ, List.getElem_cons_zero, List.setIfInBounds_toArray, List.set_cons_zero, List.set_cons_succ]
  refine wpAnyH_take (i := 23) (v := ?_) rfl (by kernel_rfl) (by kernel_rfl) (by kernel_rfl) (fun _ _ _ h => h) (Or.inl ⟨by rfl, ?_⟩) (by assumption) ?_
  rotate_left
  · intro w hSw
    (try dsimp only at hSw)
    simp only [List.getElem_toArray, List.getElem_cons_succ, List.getElem_cons_zero]
    go_simp
    try with_reducible rfl
  try simp only [Act.put, List.getElem_toArray, List.getElem_cons_succ, List.getElem_cons_zero, List.setIfInBounds_toArray, List.set_cons_zero, List.set_cons_succ]
  refine wpAnyH_take (i := 24) (v := ?_) rfl (by kernel_rfl) (by kernel_rfl) (by kernel_rfl) (fun _ _ _ h => h) (Or.inl ⟨by rfl, ?_⟩) (by assumption) ?_
  rotate_left
  · intro w hSw
    (try dsimp only at hSw)
    simp only [List.getElem_toArray, List.getElem_cons_succ, List.getElem_cons_zero]
    go_simp
    try with_reducible rfl
  try simp only [Act.put, List.getElem_toArray, List.getElem_cons_succ, List.getElem_cons_zero, List.setIfInBounds_toArray, List.set_cons_zero, List.set_cons_succ]
  refine wpAnyH_take (i := 25) (v := ?_) rfl (by kernel_rfl) (by kernel_rfl) (by kernel_rfl) (fun _ _ _ h => h) (Or.inl ⟨by rfl, ?_⟩) (by assumption) ?_
  rotate_left
  · intro w hSw
    (try dsimp only at hSw)
    simp only [List.getElem_toArray, List.getElem_cons_succ, List.getElem_cons_zero]
    go_simp
    try with_reducible rfl
  try simp only [Act.put, List.getElem_toArray, List.getElem_cons_succ, List.getElem_cons_zero, List.setIfInBounds_toArray, List.set_cons_zero, List.set_cons_succ]
  refine wpAnyH_take (i := 26) (v := ?_) rfl (by kernel_rfl) (by kernel_rfl) (by kernel_rfl) (fun _ _ _ h => h) (Or.inl ⟨by rfl, ?_⟩) (by assumption) ?_
  rotate_left
  · intro w hSw
    (try dsimp only at hSw)
    simp only [List.getElem_toArray, List.getElem_cons_succ, List.getElem_cons_zero]
    go_simp
    try with_reducible rfl
  try simp only [Act.put, List.getElem_toArray, List.getElem_cons_succ, List.getElem_cons_zero, List.setIfInBounds_toArray, List.set_cons_zero, List.set_cons_succ]
  refine wpAnyH_take (i := 27) (v := ?_) rfl (by kernel_rfl) (by kernel_rfl) (by kernel_rfl) (fun _ _ _ h => h) (Or.inl ⟨by rfl, ?_⟩) (by assumption) ?_
  rotate_left
  · intro w hSw
    (try dsimp only at hSw)
    simp only [List.getElem_toArray, List.getElem_cons_succ, List.getElem_cons_zero]
    go_simp
    try with_reducible rfl
  try simp only [Act.put, List.getElem_toArray, List.getElem_cons_succ, List.getElem_cons_zero, List.setIfInBounds_toArray, List.set_cons_zero, List.set_cons_succ]
  refine wpAnyH_take (i := 28) (v := ?_) rfl (by kernel_rfl) (by kernel_rfl) (by kernel_rfl) (fun _ _ _ h => h) (Or.inl ⟨by rfl, ?_⟩) (by assumption) ?_
  rotate_left
  · intro w hSw
    (try dsimp only at hSw)
    simp only [List.getElem_toArray, List.getElem_cons_succ, List.getElem_cons_zero]
    go_simp
    try with_reducible rfl
  try simp only [Act.put, List.getElem_toArray, List.getElem_cons_succ, List.getElem_cons_zero, List.setIfInBounds_toArray, List.set_cons_zero, List.set_cons_succ]
  refine wpAnyH_take (i := 29) (v := ?_) rfl (by kernel_rfl) (by kernel_rfl) (by kernel_rfl) (fun _ _ _ h => h) (Or.inl ⟨by rfl, ?_⟩) (by assumption) ?_
  rotate_left
  · intro w hSw
    (try dsimp only at hSw)
    simp only [List.getElem_toArray, List.getElem_cons_succ, List.getElem_cons_zero]
    go_simp
    try with_reducible rfl
  try simp only [Act.put, List.getElem_toArray, List.getElem_cons_succ, List.getElem_cons_zero, List.setIfInBounds_toArray, List.set_cons_zero, List.set_cons_succ]
  refine wpAnyH_take (i := 30) (v := ?_) rfl (by kernel_rfl) (by kernel_rfl) (by kernel_rfl) (fun _ _ _ h => h) (Or.inl ⟨by rfl, ?_⟩) (by assumption) ?_
  rotate_left
  · intro w hSw
    (try dsimp only at hSw)
    simp only [List.getElem_toArray, List.getElem_cons_succ, List.getElem_cons_zero]
    go_simp
    try with_reducible rfl
  try simp only [Act.put, List.getElem_toArray, List.getElem_cons_succ, List.getElem_cons_zero, List.setIfInBounds_toArray, List.set_cons_zero, List.set_cons_succ]
  refine wpAnyH_take (i := 31) (v := ?_) rfl (by kernel_rfl) (by kernel_rfl) (by kernel_rfl) (fun _ _ _ h => h) (Or.inl ⟨by rfl, ?_⟩) (by assumption) ?_
  rotate_left
  · intro w hSw
    (try dsimp only at hSw)
    simp only [List.getElem_toArray, List.getElem_cons_succ, List.getElem_cons_zero]
    go_simp
    try with_reducible rfl
  try simp only [Act.put, List.getElem_toArray, List.getElem_cons_succ, List.getElem_cons_zero, List.setIfInBounds_toArray, List.set_cons_zero, List.set_cons_succ]
  refine wpAnyH_take (i := 32) (v := ?_) rfl (by kernel_rfl) (by kernel_rfl) (by kernel_rfl) (fun _ _ _ h => h) (Or.inl ⟨by rfl, ?_⟩) (by assumption) ?_
  rotate_left
  · intro w hSw
    (try dsimp only at hSw)
    simp only [List.getElem_toArray, List.getElem_cons_succ, List.getElem_cons_zero]
    go_simp
    try with_reducible rfl
  try simp only [Act.put, List.getElem_toArray, List.getElem_cons_succ, List.getElem_cons_zero, List.setIfInBounds_toArray, List.set_cons_zero, List.set_cons_succ]
  refine wpAnyH_take (i := 33) (v := ?_) rfl (by kernel_rfl) (by kernel_rfl) (by kernel_rfl) (fun _ _ _ h => h) (Or.inl ⟨by rfl, ?_⟩) (by assumption) ?_
  rotate_left
  · intro w hSw
    (try dsimp only at hSw)
    simp only [List.getElem_toArray, List.getElem_cons_succ, List.getElem_cons_zero]
    go_simp
    try with_reducible rfl
  try simp only [Act.put, List.getElem_toArray, List.getElem_cons_succ, List.getElem_cons_zero, List.setIfInBounds_toArray, List.set_cons_zero, List.set_cons_succ]
  refine wpAnyH_take (i := 34) (v := ?_) rfl (by kernel_rfl) (by kernel_rfl) (by kernel_rfl) (fun _ _ _ h => h) (Or.inl ⟨by rfl, ?_⟩) (by assumption) ?_
  rotate_left
  · intro w hSw
    (try dsimp only at hSw)
    simp only [List.getElem_toArray, List.getElem_cons_succ, List.getElem_cons_zero]
    go_simp
    try with_reducible rfl
  try simp only [Act.put, List.getElem_toArray, List.getElem_cons_succ, List.getElem_cons_zero, List.setIfInBounds_toArray, List.set_cons_zero, List.set_cons_succ]
  refine wpAnyH_take (i := 35) (v := ?_) rfl (by kernel_rfl) (by kernel_rfl) (by kernel_rfl) (fun _ _ _ h => h) (Or.inl ⟨by rfl, ?_⟩) (by assumption) ?_
  rotate_left
  · intro w hSw
    (try dsimp only at hSw)
    simp only [List.getElem_toArray, List.getElem_cons_succ, List.getElem_cons_zero]
    go_simp
    try with_reducible rfl
  try simp only [Act.put, List.getElem_toArray, List.getElem_cons_succ, List.getElem_cons_zero, List.setIfInBounds_toArray, List.set_cons_zero, List.set_cons_succ]
  refine wpAnyH_take (i := 36) (v := ?_) rfl (by kernel_rfl) (by kernel_rfl) (by kernel_rfl) (fun _ _ _ h => h) (Or.inl ⟨by rfl, ?_⟩) (by assumption) ?_
  rotate_left
  · intro w hSw
    (try dsimp only at hSw)
    simp only [List.getElem_toArray, List.getElem_cons_succ, List.getElem_cons_zero]
    go_simp
    try with_reducible rfl
  try simp only [Act.put, List.getElem_toArray, List.getElem_cons_succ, List.getElem_cons_zero, List.setIfInBounds_toArray, List.set_cons_zero, List.set_cons_succ]
  refine wpAnyH_take (i := 38) (v := ?_) rfl (by kernel_rfl) (by kernel_rfl) (by kernel_rfl) (fun _ _ _ h => h) (Or.inl ⟨by rfl, ?_⟩) (by assumption) ?_
  rotate_left
  · intro w hSw
    (try dsimp only at hSw)
    simp only [List.getElem_toArray, List.getElem_cons_succ, List.getElem_cons_zero]
    go_simp
    try with_reducible rfl
  try simp only [Act.put, List.getElem_toArray, List.getElem_cons_succ, List.getElem_cons_zero, List.setIfInBounds_toArray, List.set_cons_zero, List.set_cons_succ]
  refine wpAnyH_take (i := 39) (v := ?_) rfl (by kernel_rfl) (by kernel_rfl) (by kernel_rfl) (fun _ _ _ h => h) (Or.inl ⟨by rfl, ?_⟩) (by assumption) ?_
  rotate_left
  · intro w hSw
    (try dsimp only at hSw)
    simp only [List.getElem_toArray, List.getElem_cons_succ, List.getElem_cons_zero]
    go_simp
    try with_reducible rfl
  try simp only [Act.put, List.getElem_toArray, List.getElem_cons_succ, List.getElem_cons_zero, List.setIfInBounds_toArray, List.set_cons_zero, List.set_cons_succ]
  refine wpAnyH_take (i := 40) (v := ?_) rfl (by kernel_rfl) (by kernel_rfl) (by kernel_rfl) (fun _ _ _ h => h) (Or.inl ⟨by rfl, ?_⟩) (by assumption) ?_
  rotate_left
  · intro w hSw
    (try dsimp only at hSw)
    simp only [List.getElem_toArray, List.getElem_cons_succ, List.getElem_cons_zero]
    go_simp
    try with_reducible rfl
  try simp only [Act.put, List.getElem_toArray, List.getElem_cons_succ, List.getElem_cons_zero, List.setIfInBounds_toArray, List.set_cons_zero, List.set_cons_succ]
  refine wpAnyH_take (i := 42) (v := ?_) rfl (by kernel_rfl) (by kernel_rfl) (by kernel_rfl) (fun _ _ _ h => h) (Or.inl ⟨by rfl, ?_⟩) (by assumption) ?_
  rotate_left
  · intro w hSw
    (try dsimp only at hSw)
    simp only [List.getElem_toArray, List.getElem_cons_succ, List.getElem_cons_zero]
    go_simp
    try with_reducible rfl
  try simp only [Act.put, List.getElem_toArray, List.getElem_cons_succ, List.getElem_cons_zero, List.setIfInBounds_toArray, List.set_cons_zero, List.set_cons_succ]
  refine wpAnyH_take (i := 43) (v := ?_) rfl (by kernel_rfl) (by kernel_rfl) (by kernel_rfl) (fun _ _ _ h => h) (Or.inl ⟨by rfl, ?_⟩) (by assumption) ?_
  rotate_left
  · intro w hSw
    (try dsimp only at hSw)
    simp only [List.getElem_toArray, List.getElem_cons_succ, List.getElem_cons_zero]
    go_simp
    try with_reducible rfl
  try simp only [Act.put, List.getElem_toArray, List.getElem_cons_succ, List.getElem_cons_zero, List.setIfInBounds_toArray, List.set_cons_zero, List.set_cons_succ]
  refine wpAnyH_take (i := 44) (v := ?_) rfl (by kernel_rfl) (by kernel_rfl) (by kernel_rfl) (fun _ _ _ h => h) (Or.inl ⟨by rfl, ?_⟩) (by assumption) ?_
  rotate_left
  · intro w hSw
    (try dsimp only at hSw)
    simp only [List.getElem_toArray, List.getElem_cons_succ, List.getElem_cons_zero]
    go_simp
    try with_reducible rfl
  try simp only [Act.put, List.getElem_toArray, List.getElem_cons_succ, List.getElem_cons_zero, List.setIfInBounds_toArray, List.set_cons_zero, List.set_cons_succ]
  refine wpAnyH_take (i := 46) (v := ?_) rfl (by kernel_rfl) (by kernel_rfl) (by kernel_rfl) (fun _ _ _ h => h) (Or.inl ⟨by rfl, ?_⟩) (by assumption) ?_
  rotate_left
  · intro w hSw
    (try dsimp only at hSw)
    simp only [List.getElem_toArray, List.getElem_cons_succ, List.getElem_cons_zero]
    go_simp
    try with_reducible rfl
  try simp only [Act.put, List.getElem_toArray, List.getElem_cons_succ, List.getElem_cons_zero, List.setIfInBounds_toArray, List.set_cons_zero, List.set_cons_succ]
  refine wpAnyH_take (i := 47) (v := ?_) rfl (by kernel_rfl) (by kernel_rfl) (by kernel_rfl) (fun _ _ _ h => h) (Or.inl ⟨by rfl, ?_⟩) (by assumption) ?_
  rotate_left
  · intro w hSw
    (try dsimp only at hSw)
    simp only [List.getElem_toArray, List.getElem_cons_succ, List.getElem_cons_zero]
    go_simp
    try with_reducible rfl
  try simp only [Act.put, List.getElem_toArray, List.getElem_cons_succ, List.getElem_cons_zero, List.setIfInBounds_toArray, List.set_cons_zero, List.set_cons_succ]
  refine wpAnyH_ready (rs := [37]) (by kernel_rfl) (by simp) ?_
  refine AllReadyH.cons rfl (fun K hK => ?_) AllReadyH.nil
  rw [if_pos (by rfl)]
  simp only [List.getElem_toArray, List.getElem_cons_succ, List.getElem_cons_zero]
  go_simp
  refine (used_any A n c w.heap.size fs cap left false u _ HN.out HU.out h4.s h4.b.size hsm).mono ?_
  rintro e W5 ⟨rfl, hx⟩
  have h5 := h4.next hx
  clear hx h4 hHeld
  refine hK.out _ _ ?_ (fun hHeld => ?_)
  · exact HK.out _ h5
  clear hK K
  try simp only [Act.put, List.getElem_toArray, List.getElem_cons_succ, List.getElem_cons_zero, List.setIfInBounds_toArray, List.set_cons_zero, List.set_cons_succ]
  refine wpAnyH_take (i := 41) (v := ?_) rfl (by kernel_rfl) (by kernel_rfl) (by kernel_rfl) (fun _ _ _ h => h) (Or.inl ⟨by rfl, ?_⟩) (by assumption) ?_
  rotate_left
  · intro w hSw
    (try dsimp only at hSw)
    simp only [List.getElem_toArray, List.getElem_cons_succ, List.getElem_cons_zero]
    go_simp
    try with_reducible rfl
  try simp only [Act.put, List.getElem_toArray, List.getElem_cons_succ, List.getElem_cons_zero, List.setIfInBounds_toArray, List.set_cons_zero, List.set_cons_succ]
  refine wpAnyH_take (i := 45) (v := ?_) rfl (by kernel_rfl) (by kernel_rfl) (by kernel_rfl) (fun _ _ _ h => h) (Or.inl ⟨by rfl, ?_⟩) (by assumption) ?_
  rotate_left
  · intro w hSw
    (try dsimp only at hSw)
    simp only [List.getElem_toArray, List.getElem_cons_succ, List.getElem_cons_zero]
    go_simp
    try with_reducible rfl
  try simp only [Act.put, List.getElem_toArray, List.getElem_cons_succ, List.getElem_cons_zero, List.setIfInBounds_toArray, List.set_cons_zero, List.set_cons_succ]
  refine wpAnyH_take (i := 48) (v := ?_) rfl (by kernel_rfl) (by kernel_rfl) (by kernel_rfl) (fun _ _ _ h => h) (Or.inl ⟨by rfl, ?_⟩) (by assumption) ?_
  rotate_left
  · intro w hSw
    (try dsimp only at hSw)
    simp only [List.getElem_toArray, List.getElem_cons_succ, List.getElem_cons_zero]
    go_simp
    try with_reducible rfl
  try simp only [Act.put, List.getElem_toArray, List.getElem_cons_succ, List.getElem_cons_zero, List.setIfInBounds_toArray, List.set_cons_zero, List.set_cons_succ]
  refine wpAnyH_take (i := 49) (v := ?_) rfl (by kernel_rfl) (by kernel_rfl) (by kernel_rfl) (fun _ _ _ h => h) (Or.inl ⟨by rfl, ?_⟩) (by assumption) ?_
  rotate_left
  · intro w hSw
    (try dsimp only at hSw)
    simp only [List.getElem_toArray, List.getElem_cons_succ, List.getElem_cons_zero]
    go_simp
    try with_reducible rfl
  try simp only [Act.put, List.getElem_toArray, List.getElem_cons_succ, List.getElem_cons_zero, List.setIfInBounds_toArray, List.set_cons_zero, List.set_cons_succ]
  refine wpAnyH_done (by kernel_rfl) ?_ _
  clear w1_ w2_ z1 t1 t2 t3 hHeld
  cases bcap
  · obtain ⟨d0, d1, d2, d3, f1⟩ := h5.d.cells4
    obtain ⟨v0, v1_, v2_, v3_, f2⟩ := h5.v.cells4
    obtain ⟨u0, u1, u2, u3, f3⟩ := h5.u.cells4
    have l1 := h5.d.lt
    have l2 := h5.v.lt
    have l3 := h5.u.lt
    go_wp2_with fail
    refine (do_any A n c w.heap.size fs fsa cap left capa lefta false downa vo vf vb vn ra _ (HG.out.next h5.b) HN.out h5.s h5.b.size hsm hvs.2 (by omega) (by omega) hlb HA.out).mono ?_
    rintro e W6 ⟨A1, m1, c1, rfl, hl1, hs1, hm1, hx⟩
    have HL1 := Lib.hid hl1
    have h6 := h5.next hx
    clear hx h5 hl1
    clear d0 d1 d2 d3 f1 v0 v1_ v2_ v3_ f2 u0 u1 u2 u3 f3 l1 l2 l3
    obtain ⟨d0, d1, d2, d3, f1⟩ := h6.d.cells4
    obtain ⟨v0, v1_, v2_, v3_, f2⟩ := h6.v.cells4
    obtain ⟨u0, u1, u2, u3, f3⟩ := h6.u.cells4
    have l1 := h6.d.lt
    have l2 := h6.v.lt
    have l3 := h6.u.lt
    go_wp2_with fail
    obtain ⟨W7, hW7⟩ : ∃ W7, W7 = W6.alloc (.cells #[.slice A1 m1 c1, .int .i64 capa, .int .i64 lefta, .bool downa] 24) := ⟨_, rfl⟩
    obtain ⟨g7, hg7⟩ : ∃ g7, g7 = W6.heap.size := ⟨_, rfl⟩
    have hbx := bel1 W6 #[.slice A1 m1 c1, .int .i64 capa, .int .i64 lefta, .bool downa] 24
    have h7 := h6.next hbx
    have va7 := new1 W6 #[.slice A1 m1 c1, .int .i64 capa, .int .i64 lefta, .bool downa] 24
    have sa7 := (hs1.below hbx).up hbx.size
    rw [← hW7] at h7 va7 sa7 ⊢
    rw [← hg7] at va7 ⊢
    clear hW7 hg7 hbx hs1 h6
    clear d0 d1 d2 d3 f1 v0 v1_ v2_ v3_ f2 u0 u1 u2 u3 f3 l1 l2 l3
    obtain ⟨d0, d1, d2, d3, f1⟩ := h7.d.cells4
    obtain ⟨v0, v1_, v2_, v3_, f2⟩ := h7.v.cells4
    obtain ⟨u0, u1, u2, u3, f3⟩ := h7.u.cells4
    have l1 := h7.d.lt
    have l2 := h7.v.lt
    have l3 := h7.u.lt
    refine (do_any A n c w.heap.size fs fsb cap left capb leftb false downb wo wf wb wn rb _ (HG.out.next h7.b) HN.out h7.s h7.b.size hsm hws.2 (by omega) (by omega) hlb HB.out).mono ?_
    rintro e W8 ⟨A2, m2, c2, rfl, hl2, hs2, hm2, hx⟩
    have HL2 := Lib.hid hl2
    have h8 := h7.next hx
    have va8 := va7.below hx va7.lt
    have sa8 := (sa7.below hx).up hx.size
    clear hx h7 va7 sa7 hl2
    clear d0 d1 d2 d3 f1 v0 v1_ v2_ v3_ f2 u0 u1 u2 u3 f3 l1 l2 l3
    obtain ⟨d0, d1, d2, d3, f1⟩ := h8.d.cells4
    obtain ⟨v0, v1_, v2_, v3_, f2⟩ := h8.v.cells4
    obtain ⟨u0, u1, u2, u3, f3⟩ := h8.u.cells4
    have l1 := h8.d.lt
    have l2 := h8.v.lt
    have l3 := h8.u.lt
    obtain ⟨i0, i1, i2, i3, f4⟩ := va8.cells4
    have l4 := va8.lt
    go_upto_region 5 with fail
    obtain ⟨W9, hW9⟩ : ∃ W9, W9 = W8.alloc (.cells #[.slice A2 m2 c2, .int .i64 capb, .int .i64 leftb, .bool downb] 24) := ⟨_, rfl⟩
    obtain ⟨g9, hg9⟩ : ∃ g9, g9 = W8.heap.size := ⟨_, rfl⟩
    have hbx := bel1 W8 #[.slice A2 m2 c2, .int .i64 capb, .int .i64 leftb, .bool downb] 24
    have h9 := h8.next hbx
    have vb9 := new1 W8 #[.slice A2 m2 c2, .int .i64 capb, .int .i64 leftb, .bool downb] 24
    have va9 := va8.below hbx va8.lt
    have sa9 := (sa8.below hbx).up hbx.size
    have sb9 := (hs2.below hbx).up hbx.size
    rw [← hW9] at h9 vb9 va9 sa9 sb9 ⊢
    rw [← hg9] at vb9 ⊢
    clear hW9 hg9 hbx hs2 h8 va8 sa8 i0 i1 i2 i3 f4 l4
    clear d0 d1 d2 d3 f1 v0 v1_ v2_ v3_ f2 u0 u1 u2 u3 f3 l1 l2 l3
    by_cases h0 : ra = 0
    · subst h0
      by_cases h1 : rb = 0
      · subst h1
        have hap := apart hl (by have := HN.out; omega) (by have h1 := HV.out; have h2 := of_decide_eq_false HCAP.out; simp only; omega) hvw HA.out HB.out
        obtain ⟨fa, fb, fx, ea, eb, hxw, hyv, hsa, hsb, hxl⟩ := hap
        simp only [Dk.mk.injEq] at ea eb
        obtain ⟨rfl, rfl, rfl, rfl⟩ := ea
        obtain ⟨rfl, rfl, rfl, rfl⟩ := eb
        have HXW := Lib.hid hxw
        have HYV := Lib.hid hyv
        clear hxw hyv
        obtain ⟨d0, d1, d2, d3, f1⟩ := h9.d.cells4
        obtain ⟨v0, v1_, v2_, v3_, f2⟩ := h9.v.cells4
        obtain ⟨u0, u1, u2, u3, f3⟩ := h9.u.cells4
        have l1 := h9.d.lt
        have l2 := h9.v.lt
        have l3 := h9.u.lt
        obtain ⟨i0, i1, i2, i3, f4⟩ := va9.cells4
        obtain ⟨j0, j1, j2, j3, f5⟩ := vb9.cells4
        have l4 := va9.lt
        have l5 := vb9.lt
        go_wp2_with fail
        refine (do_any A1 m1 c1 W9.heap.size fsa fx capb leftb capb leftb false false wo wf wb wn 0 _ (HG.out.next h9.b) HL1.out sa9 (Nat.le_refl _) hsa hws.2 (by omega) (by omega) hlb HXW.out).mono ?_
        rintro e W10 ⟨A3, m3, c3, rfl, hl3, hs3, hm3, hx⟩
        have HL3 := Lib.hid hl3
        have h10 := h9.next hx
        have va10 := va9.below hx va9.lt
        have vb10 := vb9.below hx vb9.lt
        have sb10 := (sb9.below hx).up hx.size
        clear hx h9 va9 vb9 sa9 sb9 hl3 i0 i1 i2 i3 f4 l4 j0 j1 j2 j3 f5 l5
        clear d0 d1 d2 d3 f1 v0 v1_ v2_ v3_ f2 u0 u1 u2 u3 f3 l1 l2 l3
        obtain ⟨d0, d1, d2, d3, f1⟩ := h10.d.cells4
        obtain ⟨v0, v1_, v2_, v3_, f2⟩ := h10.v.cells4
        obtain ⟨u0, u1, u2, u3, f3⟩ := h10.u.cells4
        have l1 := h10.d.lt
        have l2 := h10.v.lt
        have l3 := h10.u.lt
        obtain ⟨j0, j1, j2, j3, f5⟩ := vb10.cells4
        have l5 := vb10.lt
        go_wp2_with fail
        obtain ⟨W11, hW11⟩ : ∃ W11, W11 = W10.alloc (.cells #[.slice A3 m3 c3, .int .i64 capb, .int .i64 leftb, .bool false] 24) := ⟨_, rfl⟩
        obtain ⟨g11, hg11⟩ : ∃ g11, g11 = W10.heap.size := ⟨_, rfl⟩
        have hbx := bel1 W10 #[.slice A3 m3 c3, .int .i64 capb, .int .i64 leftb, .bool false] 24
        have h11 := h10.next hbx
        have vx11 := new1 W10 #[.slice A3 m3 c3, .int .i64 capb, .int .i64 leftb, .bool false] 24
        have sx11 := (hs3.below hbx).up hbx.size
        have sb11 := (sb10.below hbx).up hbx.size
        rw [← hW11] at h11 vx11 sx11 sb11 ⊢
        rw [← hg11] at vx11 ⊢
        clear hW11 hg11 hbx hs3 h10 va10 vb10 sb10 j0 j1 j2 j3 f5 l5
        clear d0 d1 d2 d3 f1 v0 v1_ v2_ v3_ f2 u0 u1 u2 u3 f3 l1 l2 l3
        obtain ⟨d0, d1, d2, d3, f1⟩ := h11.d.cells4
        obtain ⟨v0, v1_, v2_, v3_, f2⟩ := h11.v.cells4
        obtain ⟨u0, u1, u2, u3, f3⟩ := h11.u.cells4
        have l1 := h11.d.lt
        have l2 := h11.v.lt
        have l3 := h11.u.lt
        refine (do_any A2 m2 c2 W11.heap.size fsb fx capb leftb capb leftb false false vo vf vb vn 0 _ (HG.out.next h11.b) HL2.out sb11 (Nat.le_refl _) hsb hvs.2 (by omega) (by omega) hlb HYV.out).mono ?_
        rintro e W12 ⟨A4, m4, c4, rfl, hl4, hs4, hm4, hx⟩
        have HL4 := Lib.hid hl4
        obtain rfl : m3 = m4 := by rw [← HL3.out]; exact hl4
        have h12 := h11.next hx
        have vx12 := vx11.below hx vx11.lt
        have sx12 := (sx11.below hx).up hx.size
        clear hx h11 vx11 sx11 sb11 hl4
        clear d0 d1 d2 d3 f1 v0 v1_ v2_ v3_ f2 u0 u1 u2 u3 f3 l1 l2 l3
        obtain ⟨i0, i1, i2, i3, f4⟩ := vx12.cells4
        have l4 := vx12.lt
        go_upto_region 9 with fail
        obtain ⟨W13, hW13⟩ : ∃ W13, W13 = W12.alloc (.cells #[.slice A4 m3 c4, .int .i64 capb, .int .i64 leftb, .bool false] 24) := ⟨_, rfl⟩
        obtain ⟨g13, hg13⟩ : ∃ g13, g13 = W12.heap.size := ⟨_, rfl⟩
        have hbx := bel1 W12 #[.slice A4 m3 c4, .int .i64 capb, .int .i64 leftb, .bool false] 24
        have h13 := h12.next hbx
        have vy13 := new1 W12 #[.slice A4 m3 c4, .int .i64 capb, .int .i64 leftb, .bool false] 24
        have vx13 := vx12.below hbx vx12.lt
        have sx13 := (sx12.below hbx).up hbx.size
        have sy13 := (hs4.below hbx).up hbx.size
        rw [← hW13] at h13 vy13 vx13 sx13 sy13 ⊢
        rw [← hg13] at vy13 ⊢
        clear hW13 hg13 hbx hs4 h12 vx12 sx12 i0 i1 i2 i3 f4 l4
        obtain ⟨i0, i1, i2, i3, f4⟩ := vx13.cells4
        obtain ⟨j0, j1, j2, j3, f5⟩ := vy13.cells4
        have l4 := vx13.lt
        have l5 := vy13.lt
        go_wp2_with fail
        refine (same_self A3 A4 m3 c3 c4 W13.heap.size fx capb leftb false _ HL3.out sx13 sy13 (Nat.le_refl _) (by rw [← HL3.out]; exact hxl)).mono ?_
        rintro e W14 ⟨rfl, hx⟩
        have h14 := h13.next hx
        clear hx h13
        go_wp2_with fail
        refine (wakes_any _ (HG.out.next h14.b)).mono ?_
        rintro e WX ⟨rfl, hx⟩
        have hbx := h14.b.trans (hx.mono h14.b.size)
        go_wp2
        go_ret
        exact ⟨rfl, hbx⟩
      · have y1 : (rb != 0) = true := by simp [h1]
        clear h1
        go_wp2_with fail
        refine (wakes_any _ (HG.out.next h9.b)).mono ?_
        rintro e WX ⟨rfl, hx⟩
        have hbx := h9.b.trans (hx.mono h9.b.size)
        go_wp2
        go_ret
        exact ⟨rfl, hbx⟩
    · have y1 : (ra != 0) = true := by simp [h0]
      clear h0
      go_wp2_with fail
      refine (wakes_any _ (HG.out.next h9.b)).mono ?_
      rintro e WX ⟨rfl, hx⟩
      have hbx := h9.b.trans (hx.mono h9.b.size)
      go_wp2
      go_ret
      exact ⟨rfl, hbx⟩
  · go_wp2_with fail
    refine (wakes_any _ (HG.out.next h5.b)).mono ?_
    rintro e WX ⟨rfl, hx⟩
    have hbx := h5.b.trans (hx.mono h5.b.size)
    go_wp2
    go_ret
    exact ⟨rfl, hbx⟩
end Go.Proofs.YtbglpmjfajmkdaaDoor
