/-
  Contract of entry's Read: what it returns and what it does to memory. Conditions: those that the theorem names.
-/
import Derived.Test.YtchpemgamgcbkaaGreatEntRdT
import Derived.Test.YtchpemgamgcbkaaGreatEntBytes
namespace Go.Proofs.YtchpemgamgcbkaaGreat
open Go.RowKit

/-- What a function that reads one entry hands back. -/
def EReadRes (w : World) (x : En) (er : Int) (e : Ending) (w' : World) : Prop := ∃ A n c D m d, e = .returned (.tuple #[.agg (evals x A n c D m d), .int .i64 er]) ∧ EIn w' w'.heap.size x A n c D m d ∧ Below w.heap.size w w'
/-- .. and that what lies behind it is the call's own. -/
def EReadOwn (w : World) (x : En) (er : Int) (e : Ending) (w' : World) : Prop := ∃ A n c D m d, e = .returned (.tuple #[.agg (evals x A n c D m d), .int .i64 er]) ∧ EOwn w.heap.size w' x A n c D m d ∧ Below w.heap.size w w'
theorem EReadOwn.res {w w' : World} {x : En} {er : Int} {e : Ending} (h : EReadOwn w x er e w') : EReadRes w x er e w' := by
  obtain ⟨A, n, c, D, m, d, h1, h2, h3⟩ := h
  exact ⟨A, n, c, D, m, d, h1, h2.ein, h3⟩
theorem noEn_own (w : World) (B : Nat) : EOwn B w noEn none 0 0 none 0 0 := bare_in w B rfl rfl ⟨by simp [noEn, noRw, ByteArray.size], by simp [noEn, noRw, ByteArray.size]⟩
/-- What the chosen method does in whatever world. -/
def ReadsK (s : ByteArray) (p0 : Nat) (b0 : Bool) (y : En) (p : Nat) (bad : Bool) (f : Nat) : Prop := ∀ (g : Nat) (w : World), Rd 105 w g s p0 b0 → Calls Tryz.prog f #[.agg #[.pointer (some ⟨g, 0, none⟩)]] w (EnRd g s y p bad w)
/-- Under way: the reader in block g, its box in b4, the kinds in b5, the result's variable. -/
structure R1 (w wr : World) (g b4 b5 : Nat) (s : ByteArray) (p : Nat) (bad : Bool) : Prop where
  rd : Rd 105 wr g s p bad
  vb : Var wr b4 89 #[.pointer (some ⟨g, 0, none⟩)]
  vk : Var wr b5 66 kindsV
  vr : Var wr w.heap.size 32 zeroE
  below : Below w.heap.size w wr
  hg : w.heap.size < g ∧ g < b4 ∧ b4 < b5
section
variable {w wr w' : World} {g b4 b5 : Nat} {s : ByteArray} {p p' : Nat} {bad bad' : Bool}
theorem R1.read (h : R1 w wr g b4 b5 s p bad) (hr : Rd 105 w' g s p' bad') (hk : Kept [g] wr w') : R1 w w' g b4 b5 s p' bad' := by
  have h1 := h.hg
  exact ⟨hr, h.vb.kept hk (by simp; omega), h.vk.kept hk (by simp; omega), h.vr.kept hk (by simp; omega), h.below.trans (hk.below h.below.size (by simp; omega)), h.hg⟩
theorem R1.next (h : R1 w wr g b4 b5 s p bad) (hb : Below wr.heap.size wr w') : R1 w w' g b4 b5 s p bad :=
  ⟨Var.below h.rd hb (Var.lt h.rd), h.vb.below hb h.vb.lt, h.vk.below hb h.vk.lt, h.vr.below hb h.vr.lt, h.below.trans (hb.mono h.below.size), h.hg⟩
theorem R1.only (h : R1 w wr g b4 b5 s p bad) {x : Nat} (ho : Only x wr w') (hx : b5 < x) : R1 w w' g b4 b5 s p bad := by
  have h1 := h.hg
  exact ⟨ho.var h.rd (by omega), ho.var h.vb (by omega), ho.var h.vk (by omega), ho.var h.vr (by omega), Only.below h.below ho (by omega), h.hg⟩
end
theorem EOwn.low {base : Nat} {w w' : World} {x : En} {A D : Option Addr} {n c m d q : Nat} {cs : Array Value} (h : EOwn base w x A n c D m d) (hv : Var w q 32 cs) (k : Only q w w') : EOwn base w' x A n c D m d := h.other hv (by decide) (by decide) k
theorem reads_of {s : ByteArray} {k p0 p : Nat} {b0 bad : Bool} {y : En} (h : BodyIs progLim s k p0 b0 y p bad) (hx : s.size ≤ 1000000) (hp : p0 ≤ s.size) :
    (k = 0 → ReadsK s p0 b0 y p bad 59) ∧ (k = 1 → ReadsK s p0 b0 y p bad 61) ∧ (k = 2 → ReadsK s p0 b0 y p bad 63) ∧ (k = 3 → ReadsK s p0 b0 y p bad 65) ∧
    (k = 4 → ReadsK s p0 b0 y p bad 67) ∧ (k = 5 → ReadsK s p0 b0 y p bad 69) ∧ (k = 6 → ReadsK s p0 b0 y p bad 71) := by
  refine ⟨?_, ?_, ?_, ?_, ?_, ?_, ?_⟩ <;> rintro rfl g w hr
  · obtain ⟨b, h1, rfl⟩ := h
    exact rdata g s p0 b0 b p bad w h1 hr hx hp
  · obtain ⟨pid, p1, b1, ep, p2, b2, yes, h1, h2, h3, rfl⟩ := h
    exact rmark g s p0 b0 pid ep yes p1 p2 b1 b2 p bad w h1 h2 h3 hr hx hp
  · obtain ⟨off, h1, rfl⟩ := h
    exact rcut g s p0 b0 off p bad w h1 hr hx hp
  · obtain ⟨b, p1, b1, yes, p2, b2, h1, h2, ⟨rfl, nx, h3, rfl⟩ | ⟨rfl, rfl, rfl, rfl⟩⟩ := h
    · exact rcopy_yes g s p0 b0 b nx p1 p2 b1 b2 p bad w h1 h2 h3 hr hx hp
    · exact rcopy_no g s p0 b0 b p1 b1 p bad w h1 h2 hr hx hp
  · obtain ⟨pid, p1, b1, ep, p2, b2, nx, h1, h2, h3, rfl⟩ := h
    exact rdrop g s p0 b0 pid ep nx p1 p2 b1 b2 p bad w h1 h2 h3 hr hx hp
  · obtain ⟨pid, p1, b1, sq, p2, b2, k, p3, b3, v, h1, h2, h3, h4, rfl⟩ := h
    exact rrow g s p0 b0 pid sq k v p1 p2 p3 b1 b2 b3 p bad w h1 h2 h3 h4 hr hx hp
  · obtain ⟨pid, p1, b1, ep, p2, b2, nx, p3, b3, n, p4, b4, l, h1, h2, h3, h4, h5, rfl⟩ := h
    exact rstate g s p0 b0 pid ep nx n p1 p2 p3 p4 b1 b2 b3 b4 l p bad w h1 h2 h3 h4 h5 hr hx hp

set_option maxRecDepth 100000 in
set_option maxHeartbeats 2000000 in
theorem eread_data (s : ByteArray) (x : En) (er : Int) (p0 p : Nat) (b0 bad : Bool) (yb : Bt) (yes : Bool) (nx off : Int) (yr : Rw) (yp : Pd) (w : World) (hx : s.size ≤ 1000000) (h0 : NumIs s 0 false 0 6 0 p0 b0) (hR : ReadsK s p0 b0 ⟨0, yb, yes, nx, off, yr, yp⟩ p bad 59) (hT : Told s x er ⟨0, yb, yes, nx, off, yr, yp⟩ p bad) :
    Calls Tryz.prog 18 #[.string s] w (EReadOwn w x er) := by
  have H0 := Lib.hid h0
  have HR := Lib.hid hR
  have HT := Lib.hid hT
  clear h0 hR hT
  obtain ⟨W0, hW0⟩ : ∃ W0, W0 = w.alloc (.cells #[.int .i8 0, .int .i64 0, .int .i64 0, .int .i64 0, .bool false, .slice none 0 0, .bool false, .int .i64 0, .int .i64 0, .int .i64 0, .int .i64 0, .int .i64 0, .string ⟨#[]⟩, .string ⟨#[]⟩, .int .i64 0, .int .i64 0, .int .i64 0, .slice none 0 0] 32) := ⟨_, rfl⟩
  have v0 : Var W0 w.heap.size 32 #[.int .i8 0, .int .i64 0, .int .i64 0, .int .i64 0, .bool false, .slice none 0 0, .bool false, .int .i64 0, .int .i64 0, .int .i64 0, .int .i64 0, .int .i64 0, .string ⟨#[]⟩, .string ⟨#[]⟩, .int .i64 0, .int .i64 0, .int .i64 0, .slice none 0 0] := by rw [hW0]; exact Var.new _ _ _
  have b0' : Below w.heap.size w W0 := by rw [hW0]; exact below_new _
  have HW0 := Lib.hid hW0
  clear hW0
  go_enter Tryz.func18, Tryz.ntmps18
  go_upto_region 1 with fail
  rw [← HW0.out]
  go_wp2_with fail
  refine (new_any s W0).mono ?_
  rintro e W1 ⟨rfl, hr1, h1⟩
  obtain ⟨g, hgg⟩ : ∃ g, g = W0.heap.size := ⟨_, rfl⟩
  have hgw : w.heap.size < g := by rw [hgg]; exact v0.lt
  have v1 := v0.below h1 v0.lt
  have bb1 := b0'.trans (h1.mono b0'.size)
  rw [← hgg] at hr1 ⊢
  clear hgg v0 b0' h1 HW0
  have hg1 : g < W1.heap.size := Var.lt hr1
  go_upto_region 2 with fail
  obtain ⟨b4, hb4⟩ : ∃ b4, b4 = W1.heap.size := ⟨_, rfl⟩
  refine wp_at (C := fun W => Rd 105 W g s 0 false ∧ Var W b4 89 #[.pointer (some ⟨g, 0, none⟩)] ∧ Var W w.heap.size 32 #[.int .i8 0, .int .i64 0, .int .i64 0, .int .i64 0, .bool false, .slice none 0 0, .bool false, .int .i64 0, .int .i64 0, .int .i64 0, .int .i64 0, .int .i64 0, .string ⟨#[]⟩, .string ⟨#[]⟩, .int .i64 0, .int .i64 0, .int .i64 0, .slice none 0 0] ∧ Below w.heap.size w W) ⟨Var.alloc hr1 _, by rw [hb4]; exact Var.new _ _ _, v1.alloc _, bb1.alloc bb1.size _⟩ ?_
  rw [← hb4] at hg1 ⊢
  clear hr1 v1 bb1 hb4
  rintro W2 ⟨hr2, vb2, v2, bb2⟩
  go_wp2_with fail
  refine (kinds_any W2).mono ?_
  rintro e W3 ⟨rfl, h3⟩
  obtain ⟨b5, hb5⟩ : ∃ b5, b5 = W3.heap.size := ⟨_, rfl⟩
  have hb45 : b4 < b5 := by rw [hb5]; exact Nat.lt_of_lt_of_le vb2.lt h3.size
  have vb3 := vb2.below h3 vb2.lt
  have hr3 := Var.below hr2 h3 (Var.lt hr2)
  have v3 := v2.below h3 v2.lt
  have bb3 := bb2.trans (h3.mono bb2.size)
  clear hr2 vb2 v2 bb2 h3
  go_wp2_with (refine wpList_store_var rfl _ _ rfl rfl rfl (Var.new W3 #[.nilFunc, .nilFunc, .nilFunc, .nilFunc, .nilFunc, .nilFunc, .nilFunc, .nilFunc, .nilFunc, .nilFunc, .nilFunc, .nilFunc, .nilFunc, .nilFunc] 66) rfl (by kernel_rfl) (by simp [Value.oneCell', kindsV]) ?_; intro W4 v4 o4; have st : R1 w W4 g b4 b5 s 0 false := ⟨o4.var (Var.alloc hr3 _) (by omega), o4.var (vb3.alloc _) (by omega), by rw [hb5]; exact v4, o4.var (v3.alloc _) (by omega), Only.below (bb3.alloc bb3.size _) o4 (by have := bb3.size; omega), ⟨hgw, hg1, hb45⟩⟩; clear hr3 vb3 v3 bb3 v4 o4; have hcc := st.vb.cell 0 rfl; have hcl := st.vb.lt)
  rw [← hb5]
  clear hb5
  refine (number_all g s 0 false 0 6 0 p0 b0 W4 H0.out st.rd hx (Nat.zero_le _)).mono ?_
  rintro e W5 ⟨rfl, hr5, k5⟩
  have st := st.read hr5 k5
  clear hcc hcl hr5 k5 H0
  go_upto_region 4 with fail
  go_cut [7] (fun s7 wx => ∃ x7 A n c D m d, s7 = .pointer (some ⟨x7, 0, none⟩) ∧ b5 < x7 ∧ Var wx x7 32 (evals ⟨0, yb, yes, nx, off, yr, yp⟩ A n c D m d) ∧ EOwn (g + 1) wx ⟨0, yb, yes, nx, off, yr, yp⟩ A n c D m d ∧ R1 w wx g b4 b5 s p bad)
  case first =>
    have st := st.next (w' := W5.drew) ((Below.refl _ _).drew)
    have hcur := And.intro st.vb st.vk
    refine wp_region_held_drew (S := fun w' => Var w' b4 89 #[.pointer (some ⟨g, 0, none⟩)] ∧ Var w' b5 66 kindsV) (by kernel_rfl) hcur (fun hHeld => ?_)
    clear hHeld
    generalize W5.drew = Wc at st hcur ⊢
    refine fld_takes [0, 1, 2, 3, 4] _ 3 _ _ _ (by kernel_rfl) (fun _ d _ _ _ h => by cases d <;> exact h) (by rfl) (by kernel_rfl) (by assumption) ?_
    refine fld_taken (v := ?_) rfl (by rfl) (fun w' hw' => ?_) ?_
    rotate_left
    · (go_simp <;> with_reducible rfl)
    simp only [Act.put, List.getElem_toArray, List.getElem_cons_zero, List.setIfInBounds_toArray, List.set_cons_zero, List.set_cons_succ]
    refine fld_taken (v := ?_) rfl (by rfl) (fun w' hw' => ?_) ?_
    rotate_left
    · (go_simp <;> with_reducible rfl)
    simp only [Act.put, List.getElem_toArray, List.getElem_cons_succ, List.getElem_cons_zero, List.setIfInBounds_toArray, List.set_cons_zero, List.set_cons_succ]
    refine fld_taken (v := ?_) rfl (by rfl) (fun w' hw' => ?_) ?_
    rotate_left
    · (go_simp <;> with_reducible rfl)
    simp only [Act.put, List.getElem_toArray, List.getElem_cons_succ, List.getElem_cons_zero, List.setIfInBounds_toArray, List.set_cons_zero, List.set_cons_succ]
    refine fld_taken (v := ?_) rfl (by rfl) (fun w' hw' => ?_) ?_
    rotate_left
    · have hc := hw'.2.cell 1 rfl
      go_simp <;> with_reducible rfl
    simp only [Act.put, List.getElem_toArray, List.getElem_cons_succ, List.getElem_cons_zero, List.setIfInBounds_toArray, List.set_cons_zero, List.set_cons_succ]
    refine fld_taken (v := ?_) rfl (by rfl) (fun w' hw' => ?_) ?_
    rotate_left
    · have hc := hw'.1.cell 0 rfl
      go_simp <;> with_reducible rfl
    simp only [Act.put, List.getElem_toArray, List.getElem_cons_succ, List.getElem_cons_zero, List.setIfInBounds_toArray, List.set_cons_zero, List.set_cons_succ]
    refine fld_taken_nil ?_
    refine fld_two (i := 5) (j := 6) (by kernel_rfl) rfl rfl (by rfl) (by rfl) (fun K hK => ?_) (fun K hK => ?_)
    · go_simp
      refine (HR.out g Wc st.rd).mono ?_
      rintro e Wn ⟨A, n, c, D, m, d, rfl, ho, hr, hk⟩
      have hw7 : b5 < Wc.heap.size := st.vk.lt
      have st := st.read hr hk
      have ho := ho.down (B := g + 1) (by have := st.hg; omega)
      obtain ⟨Wc, hWc⟩ : ∃ Wc, Wc = Wn := ⟨_, rfl⟩
      subst hWc
      clear hr
      go_wp2_with fail
      have hcur := And.intro st.vb st.vk
      refine hK.out _ _ hcur ?_
      clear hK K
      clear hk
      refine fld_alone (i := 6) (by kernel_rfl) rfl (by rfl) (fun K hK => ?_)
      go_wp2_with fail
      obtain ⟨x, hxx⟩ : ∃ x, x = Wc.heap.size := ⟨_, rfl⟩
      obtain ⟨Wn, hWn⟩ : ∃ Wn, Wn = Wc.alloc (.cells #[.int .i8 0, .int .i64 0, .int .i64 0, .int .i64 0, .bool false, .slice none 0 0, .bool false, .int .i64 0, .int .i64 0, .int .i64 0, .int .i64 0, .int .i64 0, .string ⟨#[]⟩, .string ⟨#[]⟩, .int .i64 0, .int .i64 0, .int .i64 0, .slice none 0 0] 32) := ⟨_, rfl⟩
      have v7 := Var.new Wc #[.int .i8 0, .int .i64 0, .int .i64 0, .int .i64 0, .bool false, .slice none 0 0, .bool false, .int .i64 0, .int .i64 0, .int .i64 0, .int .i64 0, .int .i64 0, .string ⟨#[]⟩, .string ⟨#[]⟩, .int .i64 0, .int .i64 0, .int .i64 0, .slice none 0 0] 32
      have hx7 := st.vk.lt
      have bn := below_new (w := Wc) (.cells #[.int .i8 0, .int .i64 0, .int .i64 0, .int .i64 0, .bool false, .slice none 0 0, .bool false, .int .i64 0, .int .i64 0, .int .i64 0, .int .i64 0, .int .i64 0, .string ⟨#[]⟩, .string ⟨#[]⟩, .int .i64 0, .int .i64 0, .int .i64 0, .slice none 0 0] 32)
      have st := st.next bn
      have ho := ho.next bn
      rw [← hWn, ← hxx] at v7
      rw [← hWn] at st ho
      rw [← hxx] at hx7
      rw [← hWn, ← hxx]
      clear hWn hxx bn
      obtain ⟨Wc, hWc⟩ : ∃ Wc, Wc = Wn := ⟨_, rfl⟩
      subst hWc
      have hcur := And.intro st.vb st.vk
      refine hK.out _ _ hcur ?_
      clear hK K
      refine fld_alone (i := 7) (by kernel_rfl) rfl (by rfl) (fun K hK => ?_)
      refine wp_store_var (.tmp 7) (.tmp 20) rfl rfl rfl v7 rfl (by kernel_rfl) (by simp [Value.oneCell', evals]) ?_
      intro Wn v9 o9
      have ho := ho.low v7 o9
      have st := st.only o9 hx7
      clear v7 o9
      have hcur := And.intro st.vb st.vk
      refine hK.out _ _ hcur ?_
      clear hK K
      refine wpAnyH_done (by kernel_rfl) ?_ _
      go_wp2_with fail
      go_meet
      exact ⟨x, A, n, c, D, m, d, rfl, hx7, v9, ho, st⟩

    · go_wp2_with fail
      obtain ⟨x, hxx⟩ : ∃ x, x = Wc.heap.size := ⟨_, rfl⟩
      obtain ⟨Wn, hWn⟩ : ∃ Wn, Wn = Wc.alloc (.cells #[.int .i8 0, .int .i64 0, .int .i64 0, .int .i64 0, .bool false, .slice none 0 0, .bool false, .int .i64 0, .int .i64 0, .int .i64 0, .int .i64 0, .int .i64 0, .string ⟨#[]⟩, .string ⟨#[]⟩, .int .i64 0, .int .i64 0, .int .i64 0, .slice none 0 0] 32) := ⟨_, rfl⟩
      have v7 := Var.new Wc #[.int .i8 0, .int .i64 0, .int .i64 0, .int .i64 0, .bool false, .slice none 0 0, .bool false, .int .i64 0, .int .i64 0, .int .i64 0, .int .i64 0, .int .i64 0, .string ⟨#[]⟩, .string ⟨#[]⟩, .int .i64 0, .int .i64 0, .int .i64 0, .slice none 0 0] 32
      have hx7 := st.vk.lt
      have bn := below_new (w := Wc) (.cells #[.int .i8 0, .int .i64 0, .int .i64 0, .int .i64 0, .bool false, .slice none 0 0, .bool false, .int .i64 0, .int .i64 0, .int .i64 0, .int .i64 0, .int .i64 0, .string ⟨#[]⟩, .string ⟨#[]⟩, .int .i64 0, .int .i64 0, .int .i64 0, .slice none 0 0] 32)
      have st := st.next bn
      rw [← hWn, ← hxx] at v7
      rw [← hWn] at st
      rw [← hxx] at hx7
      rw [← hWn, ← hxx]
      clear hWn hxx bn
      obtain ⟨Wc, hWc⟩ : ∃ Wc, Wc = Wn := ⟨_, rfl⟩
      subst hWc
      have hcur := And.intro st.vb st.vk
      refine hK.out _ _ hcur ?_
      clear hK K
      refine fld_alone (i := 5) (by kernel_rfl) rfl (by rfl) (fun K hK => ?_)
      go_simp
      refine (HR.out g Wc st.rd).mono ?_
      rintro e Wn ⟨A, n, c, D, m, d, rfl, ho, hr, hk⟩
      have hw7 : b5 < Wc.heap.size := st.vk.lt
      have st := st.read hr hk
      have ho := ho.down (B := g + 1) (by have := st.hg; omega)
      have v7 := v7.kept hk (by have := st.hg; simp; omega)
      obtain ⟨Wc, hWc⟩ : ∃ Wc, Wc = Wn := ⟨_, rfl⟩
      subst hWc
      clear hr
      go_wp2_with fail
      have hcur := And.intro st.vb st.vk
      refine hK.out _ _ hcur ?_
      clear hK K
      clear hk
      refine fld_alone (i := 7) (by kernel_rfl) rfl (by rfl) (fun K hK => ?_)
      refine wp_store_var (.tmp 7) (.tmp 20) rfl rfl rfl v7 rfl (by kernel_rfl) (by simp [Value.oneCell', evals]) ?_
      intro Wn v9 o9
      have ho := ho.low v7 o9
      have st := st.only o9 hx7
      clear v7 o9
      have hcur := And.intro st.vb st.vk
      refine hK.out _ _ hcur ?_
      clear hK K
      refine wpAnyH_done (by kernel_rfl) ?_ _
      go_wp2_with fail
      go_meet
      exact ⟨x, A, n, c, D, m, d, rfl, hx7, v9, ho, st⟩
  case rest =>
    obtain ⟨x7, A, n, c, D, m, d, rfl, hx7, v7, ho, st⟩ := hcut
    simp only [evals] at v7
    have hcc := v7.cell 0 rfl
    have hf := v7.free
    have hcl := v7.lt
    go_upto_region 6 with fail
    have v8 := v7.set 0 (.int .i8 0)
    simp only [List.setIfInBounds_toArray, List.set_cons_zero] at v8
    refine wp_at (C := fun W => Var W x7 32 (evals ⟨0, yb, yes, nx, off, yr, yp⟩ A n c D m d) ∧ EOwn (g + 1) W ⟨0, yb, yes, nx, off, yr, yp⟩ A n c D m d ∧ R1 w W g b4 b5 s p bad) ⟨v8, ho.low v7 (Only.setCell _ _ _ _), st.only (Only.setCell _ _ _ _) hx7⟩ ?_
    clear v7 v8 hcc hf hcl ho st
    rintro W6 ⟨v6, hx6, st⟩
    simp only [evals] at v6
    have hcc := st.vb.cell 0 rfl
    have hcl := st.vb.lt
    obtain ⟨er0, her⟩ := endIs_of s p bad
    have HER := Lib.hid her
    clear her
    go_wp2_with fail
    refine (end_all g s p bad er0 W6 HER.out st.rd).mono ?_
    rintro e W7 ⟨rfl, nq, rfl⟩
    have bq : Below W6.heap.size W6 (W6.drewN nq) := (Below.refl _ _).drewN' nq
    have st := st.next bq
    have hx7 := hx6.next bq
    have v7 := v6.drewN nq
    clear hx6 v6 hcc hcl
    generalize W6.drewN nq = W7 at bq st hx7 v7 ⊢
    rcases HER.out with ⟨hbad, hps, rfl⟩ | ⟨hbp, rfl⟩
    · have y0 : ((0 : Int) != 0) = false := by decide
      have HBP : Hid (bad = false ∧ p = s.size) := ⟨hbad, hps⟩
      clear hbad hps HER
      obtain ⟨q, hq⟩ := iff_of (En.Good ⟨0, yb, yes, nx, off, yr, yp⟩)
      have HQ := Lib.hid hq
      clear hq
      go_wp2_with (refine wpList_load_want (by rfl) _ rfl Tryz.underlying32 rfl rfl v7 (by kernel_rfl) ?_)
      refine (emay_any ⟨0, yb, yes, nx, off, yr, yp⟩ A D n c m d W7.heap.size q W7 hx7.ein (Nat.le_refl _) HQ.out).mono ?_
      rintro e W8 ⟨rfl, h8⟩
      have st := st.next h8
      have v8 := v7.below h8 v7.lt
      have hx8 := hx7.next h8
      clear v7 hx7 bq
      cases q with
      | true =>
        obtain ⟨rfl, rfl⟩ : er = 0 ∧ x = ⟨0, yb, yes, nx, off, yr, yp⟩ := by
          rcases HT.out with ⟨_, _, _, h, h'⟩ | ⟨h | h | h, _⟩
          · exact ⟨h, h'⟩
          · rw [HBP.out.1] at h; cases h
          · exact absurd HBP.out.2 h
          · exact absurd (HQ.out.1 (by first | rfl | trivial)) h
        clear HT HQ HR HBP
        go_wp2_with (first | refine wpList_load_var rfl _ rfl Tryz.underlying32 rfl rfl v8 (by kernel_rfl) ?_ | (refine wpList_store_var rfl _ _ rfl rfl rfl st.vr rfl (by kernel_rfl) (by simp [Value.oneCell']) ?_; intro W9 v9 o9))
        refine bodyPost_ret (results_var_tmp rfl rfl rfl v9 Tryz.underlying32 rfl (by kernel_rfl)) rfl ?_
        exact ⟨A, n, c, D, m, d, rfl, (hx8.only o9 (by omega)).down (by omega), Only.below st.below o9 (Nat.le_refl _)⟩
      | false =>
        obtain ⟨rfl, rfl⟩ : er = 70 ∧ x = noEn := by
          rcases HT.out with ⟨_, _, h, _⟩ | ⟨_, h, h'⟩
          · have := HQ.out.2 h; cases this
          · exact ⟨h, h'⟩
        clear HT HQ HR HBP hx8 v8
        go_wp2_with (refine wpList_store_var rfl _ _ rfl rfl rfl st.vr rfl (by kernel_rfl) (by simp [Value.oneCell']) ?_; intro W9 v9 o9)
        refine bodyPost_ret (results_var_tmp rfl rfl rfl v9 Tryz.underlying32 rfl (by kernel_rfl)) rfl ?_
        exact ⟨none, 0, 0, none, 0, 0, rfl, noEn_own _ _, Only.below st.below o9 (Nat.le_refl _)⟩
    · have y0 : ((70 : Int) != 0) = true := by decide
      obtain ⟨rfl, rfl⟩ : er = 70 ∧ x = noEn := by
        rcases HT.out with ⟨h1, h2, _⟩ | ⟨_, h, h'⟩
        · rcases hbp with h | h
          · rw [h1] at h; cases h
          · exact absurd h2 h
        · exact ⟨h, h'⟩
      clear HT HR hx7 v7 hbp HER bq
      go_wp2_with (refine wpList_store_var rfl _ _ rfl rfl rfl st.vr rfl (by kernel_rfl) (by simp [Value.oneCell']) ?_; intro W9 v9 o9)
      refine bodyPost_ret (results_var_tmp rfl rfl rfl v9 Tryz.underlying32 rfl (by kernel_rfl)) rfl ?_
      exact ⟨none, 0, 0, none, 0, 0, rfl, noEn_own _ _, Only.below st.below o9 (Nat.le_refl _)⟩

set_option maxRecDepth 100000 in
set_option maxHeartbeats 2000000 in
theorem eread_mark (s : ByteArray) (x : En) (er : Int) (p0 p : Nat) (b0 bad : Bool) (yb : Bt) (yes : Bool) (nx off : Int) (yr : Rw) (yp : Pd) (w : World) (hx : s.size ≤ 1000000) (h0 : NumIs s 0 false 0 6 1 p0 b0) (hR : ReadsK s p0 b0 ⟨1, yb, yes, nx, off, yr, yp⟩ p bad 61) (hT : Told s x er ⟨1, yb, yes, nx, off, yr, yp⟩ p bad) :
    Calls Tryz.prog 18 #[.string s] w (EReadOwn w x er) := by
  have H0 := Lib.hid h0
  have HR := Lib.hid hR
  have HT := Lib.hid hT
  clear h0 hR hT
  obtain ⟨W0, hW0⟩ : ∃ W0, W0 = w.alloc (.cells #[.int .i8 0, .int .i64 0, .int .i64 0, .int .i64 0, .bool false, .slice none 0 0, .bool false, .int .i64 0, .int .i64 0, .int .i64 0, .int .i64 0, .int .i64 0, .string ⟨#[]⟩, .string ⟨#[]⟩, .int .i64 0, .int .i64 0, .int .i64 0, .slice none 0 0] 32) := ⟨_, rfl⟩
  have v0 : Var W0 w.heap.size 32 #[.int .i8 0, .int .i64 0, .int .i64 0, .int .i64 0, .bool false, .slice none 0 0, .bool false, .int .i64 0, .int .i64 0, .int .i64 0, .int .i64 0, .int .i64 0, .string ⟨#[]⟩, .string ⟨#[]⟩, .int .i64 0, .int .i64 0, .int .i64 0, .slice none 0 0] := by rw [hW0]; exact Var.new _ _ _
  have b0' : Below w.heap.size w W0 := by rw [hW0]; exact below_new _
  have HW0 := Lib.hid hW0
  clear hW0
  go_enter Tryz.func18, Tryz.ntmps18
  go_upto_region 1 with fail
  rw [← HW0.out]
  go_wp2_with fail
  refine (new_any s W0).mono ?_
  rintro e W1 ⟨rfl, hr1, h1⟩
  obtain ⟨g, hgg⟩ : ∃ g, g = W0.heap.size := ⟨_, rfl⟩
  have hgw : w.heap.size < g := by rw [hgg]; exact v0.lt
  have v1 := v0.below h1 v0.lt
  have bb1 := b0'.trans (h1.mono b0'.size)
  rw [← hgg] at hr1 ⊢
  clear hgg v0 b0' h1 HW0
  have hg1 : g < W1.heap.size := Var.lt hr1
  go_upto_region 2 with fail
  obtain ⟨b4, hb4⟩ : ∃ b4, b4 = W1.heap.size := ⟨_, rfl⟩
  refine wp_at (C := fun W => Rd 105 W g s 0 false ∧ Var W b4 89 #[.pointer (some ⟨g, 0, none⟩)] ∧ Var W w.heap.size 32 #[.int .i8 0, .int .i64 0, .int .i64 0, .int .i64 0, .bool false, .slice none 0 0, .bool false, .int .i64 0, .int .i64 0, .int .i64 0, .int .i64 0, .int .i64 0, .string ⟨#[]⟩, .string ⟨#[]⟩, .int .i64 0, .int .i64 0, .int .i64 0, .slice none 0 0] ∧ Below w.heap.size w W) ⟨Var.alloc hr1 _, by rw [hb4]; exact Var.new _ _ _, v1.alloc _, bb1.alloc bb1.size _⟩ ?_
  rw [← hb4] at hg1 ⊢
  clear hr1 v1 bb1 hb4
  rintro W2 ⟨hr2, vb2, v2, bb2⟩
  go_wp2_with fail
  refine (kinds_any W2).mono ?_
  rintro e W3 ⟨rfl, h3⟩
  obtain ⟨b5, hb5⟩ : ∃ b5, b5 = W3.heap.size := ⟨_, rfl⟩
  have hb45 : b4 < b5 := by rw [hb5]; exact Nat.lt_of_lt_of_le vb2.lt h3.size
  have vb3 := vb2.below h3 vb2.lt
  have hr3 := Var.below hr2 h3 (Var.lt hr2)
  have v3 := v2.below h3 v2.lt
  have bb3 := bb2.trans (h3.mono bb2.size)
  clear hr2 vb2 v2 bb2 h3
  go_wp2_with (refine wpList_store_var rfl _ _ rfl rfl rfl (Var.new W3 #[.nilFunc, .nilFunc, .nilFunc, .nilFunc, .nilFunc, .nilFunc, .nilFunc, .nilFunc, .nilFunc, .nilFunc, .nilFunc, .nilFunc, .nilFunc, .nilFunc] 66) rfl (by kernel_rfl) (by simp [Value.oneCell', kindsV]) ?_; intro W4 v4 o4; have st : R1 w W4 g b4 b5 s 0 false := ⟨o4.var (Var.alloc hr3 _) (by omega), o4.var (vb3.alloc _) (by omega), by rw [hb5]; exact v4, o4.var (v3.alloc _) (by omega), Only.below (bb3.alloc bb3.size _) o4 (by have := bb3.size; omega), ⟨hgw, hg1, hb45⟩⟩; clear hr3 vb3 v3 bb3 v4 o4; have hcc := st.vb.cell 0 rfl; have hcl := st.vb.lt)
  rw [← hb5]
  clear hb5
  refine (number_all g s 0 false 0 6 1 p0 b0 W4 H0.out st.rd hx (Nat.zero_le _)).mono ?_
  rintro e W5 ⟨rfl, hr5, k5⟩
  have st := st.read hr5 k5
  clear hcc hcl hr5 k5 H0
  go_upto_region 4 with fail
  go_cut [7] (fun s7 wx => ∃ x7 A n c D m d, s7 = .pointer (some ⟨x7, 0, none⟩) ∧ b5 < x7 ∧ Var wx x7 32 (evals ⟨0, yb, yes, nx, off, yr, yp⟩ A n c D m d) ∧ EOwn (g + 1) wx ⟨1, yb, yes, nx, off, yr, yp⟩ A n c D m d ∧ R1 w wx g b4 b5 s p bad)
  case first =>
    have st := st.next (w' := W5.drew) ((Below.refl _ _).drew)
    have hcur := And.intro st.vb st.vk
    refine wp_region_held_drew (S := fun w' => Var w' b4 89 #[.pointer (some ⟨g, 0, none⟩)] ∧ Var w' b5 66 kindsV) (by kernel_rfl) hcur (fun hHeld => ?_)
    clear hHeld
    generalize W5.drew = Wc at st hcur ⊢
    refine fld_takes [0, 1, 2, 3, 4] _ 3 _ _ _ (by kernel_rfl) (fun _ d _ _ _ h => by cases d <;> exact h) (by rfl) (by kernel_rfl) (by assumption) ?_
    refine fld_taken (v := ?_) rfl (by rfl) (fun w' hw' => ?_) ?_
    rotate_left
    · (go_simp <;> with_reducible rfl)
    simp only [Act.put, List.getElem_toArray, List.getElem_cons_zero, List.setIfInBounds_toArray, List.set_cons_zero, List.set_cons_succ]
    refine fld_taken (v := ?_) rfl (by rfl) (fun w' hw' => ?_) ?_
    rotate_left
    · (go_simp <;> with_reducible rfl)
    simp only [Act.put, List.getElem_toArray, List.getElem_cons_succ, List.getElem_cons_zero, List.setIfInBounds_toArray, List.set_cons_zero, List.set_cons_succ]
    refine fld_taken (v := ?_) rfl (by rfl) (fun w' hw' => ?_) ?_
    rotate_left
    · (go_simp <;> with_reducible rfl)
    simp only [Act.put, List.getElem_toArray, List.getElem_cons_succ, List.getElem_cons_zero, List.setIfInBounds_toArray, List.set_cons_zero, List.set_cons_succ]
    refine fld_taken (v := ?_) rfl (by rfl) (fun w' hw' => ?_) ?_
    rotate_left
    · have hc := hw'.2.cell 3 rfl
      go_simp <;> with_reducible rfl
    simp only [Act.put, List.getElem_toArray, List.getElem_cons_succ, List.getElem_cons_zero, List.setIfInBounds_toArray, List.set_cons_zero, List.set_cons_succ]
    refine fld_taken (v := ?_) rfl (by rfl) (fun w' hw' => ?_) ?_
    rotate_left
    · have hc := hw'.1.cell 0 rfl
      go_simp <;> with_reducible rfl
    simp only [Act.put, List.getElem_toArray, List.getElem_cons_succ, List.getElem_cons_zero, List.setIfInBounds_toArray, List.set_cons_zero, List.set_cons_succ]
    refine fld_taken_nil ?_
    refine fld_two (i := 5) (j := 6) (by kernel_rfl) rfl rfl (by rfl) (by rfl) (fun K hK => ?_) (fun K hK => ?_)
    · go_simp
      refine (HR.out g Wc st.rd).mono ?_
      rintro e Wn ⟨A, n, c, D, m, d, rfl, ho, hr, hk⟩
      have hw7 : b5 < Wc.heap.size := st.vk.lt
      have st := st.read hr hk
      have ho := ho.down (B := g + 1) (by have := st.hg; omega)
      obtain ⟨Wc, hWc⟩ : ∃ Wc, Wc = Wn := ⟨_, rfl⟩
      subst hWc
      clear hr
      go_wp2_with fail
      have hcur := And.intro st.vb st.vk
      refine hK.out _ _ hcur ?_
      clear hK K
      clear hk
      refine fld_alone (i := 6) (by kernel_rfl) rfl (by rfl) (fun K hK => ?_)
      go_wp2_with fail
      obtain ⟨x, hxx⟩ : ∃ x, x = Wc.heap.size := ⟨_, rfl⟩
      obtain ⟨Wn, hWn⟩ : ∃ Wn, Wn = Wc.alloc (.cells #[.int .i8 0, .int .i64 0, .int .i64 0, .int .i64 0, .bool false, .slice none 0 0, .bool false, .int .i64 0, .int .i64 0, .int .i64 0, .int .i64 0, .int .i64 0, .string ⟨#[]⟩, .string ⟨#[]⟩, .int .i64 0, .int .i64 0, .int .i64 0, .slice none 0 0] 32) := ⟨_, rfl⟩
      have v7 := Var.new Wc #[.int .i8 0, .int .i64 0, .int .i64 0, .int .i64 0, .bool false, .slice none 0 0, .bool false, .int .i64 0, .int .i64 0, .int .i64 0, .int .i64 0, .int .i64 0, .string ⟨#[]⟩, .string ⟨#[]⟩, .int .i64 0, .int .i64 0, .int .i64 0, .slice none 0 0] 32
      have hx7 := st.vk.lt
      have bn := below_new (w := Wc) (.cells #[.int .i8 0, .int .i64 0, .int .i64 0, .int .i64 0, .bool false, .slice none 0 0, .bool false, .int .i64 0, .int .i64 0, .int .i64 0, .int .i64 0, .int .i64 0, .string ⟨#[]⟩, .string ⟨#[]⟩, .int .i64 0, .int .i64 0, .int .i64 0, .slice none 0 0] 32)
      have st := st.next bn
      have ho := ho.next bn
      rw [← hWn, ← hxx] at v7
      rw [← hWn] at st ho
      rw [← hxx] at hx7
      rw [← hWn, ← hxx]
      clear hWn hxx bn
      obtain ⟨Wc, hWc⟩ : ∃ Wc, Wc = Wn := ⟨_, rfl⟩
      subst hWc
      have hcur := And.intro st.vb st.vk
      refine hK.out _ _ hcur ?_
      clear hK K
      refine fld_alone (i := 7) (by kernel_rfl) rfl (by rfl) (fun K hK => ?_)
      refine wp_store_var (.tmp 7) (.tmp 20) rfl rfl rfl v7 rfl (by kernel_rfl) (by simp [Value.oneCell', evals]) ?_
      intro Wn v9 o9
      have ho := ho.low v7 o9
      have st := st.only o9 hx7
      clear v7 o9
      have hcur := And.intro st.vb st.vk
      refine hK.out _ _ hcur ?_
      clear hK K
      refine wpAnyH_done (by kernel_rfl) ?_ _
      go_wp2_with fail
      go_meet
      exact ⟨x, A, n, c, D, m, d, rfl, hx7, v9, ho, st⟩

    · go_wp2_with fail
      obtain ⟨x, hxx⟩ : ∃ x, x = Wc.heap.size := ⟨_, rfl⟩
      obtain ⟨Wn, hWn⟩ : ∃ Wn, Wn = Wc.alloc (.cells #[.int .i8 0, .int .i64 0, .int .i64 0, .int .i64 0, .bool false, .slice none 0 0, .bool false, .int .i64 0, .int .i64 0, .int .i64 0, .int .i64 0, .int .i64 0, .string ⟨#[]⟩, .string ⟨#[]⟩, .int .i64 0, .int .i64 0, .int .i64 0, .slice none 0 0] 32) := ⟨_, rfl⟩
      have v7 := Var.new Wc #[.int .i8 0, .int .i64 0, .int .i64 0, .int .i64 0, .bool false, .slice none 0 0, .bool false, .int .i64 0, .int .i64 0, .int .i64 0, .int .i64 0, .int .i64 0, .string ⟨#[]⟩, .string ⟨#[]⟩, .int .i64 0, .int .i64 0, .int .i64 0, .slice none 0 0] 32
      have hx7 := st.vk.lt
      have bn := below_new (w := Wc) (.cells #[.int .i8 0, .int .i64 0, .int .i64 0, .int .i64 0, .bool false, .slice none 0 0, .bool false, .int .i64 0, .int .i64 0, .int .i64 0, .int .i64 0, .int .i64 0, .string ⟨#[]⟩, .string ⟨#[]⟩, .int .i64 0, .int .i64 0, .int .i64 0, .slice none 0 0] 32)
      have st := st.next bn
      rw [← hWn, ← hxx] at v7
      rw [← hWn] at st
      rw [← hxx] at hx7
      rw [← hWn, ← hxx]
      clear hWn hxx bn
      obtain ⟨Wc, hWc⟩ : ∃ Wc, Wc = Wn := ⟨_, rfl⟩
      subst hWc
      have hcur := And.intro st.vb st.vk
      refine hK.out _ _ hcur ?_
      clear hK K
      refine fld_alone (i := 5) (by kernel_rfl) rfl (by rfl) (fun K hK => ?_)
      go_simp
      refine (HR.out g Wc st.rd).mono ?_
      rintro e Wn ⟨A, n, c, D, m, d, rfl, ho, hr, hk⟩
      have hw7 : b5 < Wc.heap.size := st.vk.lt
      have st := st.read hr hk
      have ho := ho.down (B := g + 1) (by have := st.hg; omega)
      have v7 := v7.kept hk (by have := st.hg; simp; omega)
      obtain ⟨Wc, hWc⟩ : ∃ Wc, Wc = Wn := ⟨_, rfl⟩
      subst hWc
      clear hr
      go_wp2_with fail
      have hcur := And.intro st.vb st.vk
      refine hK.out _ _ hcur ?_
      clear hK K
      clear hk
      refine fld_alone (i := 7) (by kernel_rfl) rfl (by rfl) (fun K hK => ?_)
      refine wp_store_var (.tmp 7) (.tmp 20) rfl rfl rfl v7 rfl (by kernel_rfl) (by simp [Value.oneCell', evals]) ?_
      intro Wn v9 o9
      have ho := ho.low v7 o9
      have st := st.only o9 hx7
      clear v7 o9
      have hcur := And.intro st.vb st.vk
      refine hK.out _ _ hcur ?_
      clear hK K
      refine wpAnyH_done (by kernel_rfl) ?_ _
      go_wp2_with fail
      go_meet
      exact ⟨x, A, n, c, D, m, d, rfl, hx7, v9, ho, st⟩
  case rest =>
    obtain ⟨x7, A, n, c, D, m, d, rfl, hx7, v7, ho, st⟩ := hcut
    simp only [evals] at v7
    have hcc := v7.cell 0 rfl
    have hf := v7.free
    have hcl := v7.lt
    go_upto_region 6 with fail
    have v8 := v7.set 0 (.int .i8 1)
    simp only [List.setIfInBounds_toArray, List.set_cons_zero] at v8
    refine wp_at (C := fun W => Var W x7 32 (evals ⟨1, yb, yes, nx, off, yr, yp⟩ A n c D m d) ∧ EOwn (g + 1) W ⟨1, yb, yes, nx, off, yr, yp⟩ A n c D m d ∧ R1 w W g b4 b5 s p bad) ⟨v8, ho.low v7 (Only.setCell _ _ _ _), st.only (Only.setCell _ _ _ _) hx7⟩ ?_
    clear v7 v8 hcc hf hcl ho st
    rintro W6 ⟨v6, hx6, st⟩
    simp only [evals] at v6
    have hcc := st.vb.cell 0 rfl
    have hcl := st.vb.lt
    obtain ⟨er0, her⟩ := endIs_of s p bad
    have HER := Lib.hid her
    clear her
    go_wp2_with fail
    refine (end_all g s p bad er0 W6 HER.out st.rd).mono ?_
    rintro e W7 ⟨rfl, nq, rfl⟩
    have bq : Below W6.heap.size W6 (W6.drewN nq) := (Below.refl _ _).drewN' nq
    have st := st.next bq
    have hx7 := hx6.next bq
    have v7 := v6.drewN nq
    clear hx6 v6 hcc hcl
    generalize W6.drewN nq = W7 at bq st hx7 v7 ⊢
    rcases HER.out with ⟨hbad, hps, rfl⟩ | ⟨hbp, rfl⟩
    · have y0 : ((0 : Int) != 0) = false := by decide
      have HBP : Hid (bad = false ∧ p = s.size) := ⟨hbad, hps⟩
      clear hbad hps HER
      obtain ⟨q, hq⟩ := iff_of (En.Good ⟨1, yb, yes, nx, off, yr, yp⟩)
      have HQ := Lib.hid hq
      clear hq
      go_wp2_with (refine wpList_load_want (by rfl) _ rfl Tryz.underlying32 rfl rfl v7 (by kernel_rfl) ?_)
      refine (emay_any ⟨1, yb, yes, nx, off, yr, yp⟩ A D n c m d W7.heap.size q W7 hx7.ein (Nat.le_refl _) HQ.out).mono ?_
      rintro e W8 ⟨rfl, h8⟩
      have st := st.next h8
      have v8 := v7.below h8 v7.lt
      have hx8 := hx7.next h8
      clear v7 hx7 bq
      cases q with
      | true =>
        obtain ⟨rfl, rfl⟩ : er = 0 ∧ x = ⟨1, yb, yes, nx, off, yr, yp⟩ := by
          rcases HT.out with ⟨_, _, _, h, h'⟩ | ⟨h | h | h, _⟩
          · exact ⟨h, h'⟩
          · rw [HBP.out.1] at h; cases h
          · exact absurd HBP.out.2 h
          · exact absurd (HQ.out.1 (by first | rfl | trivial)) h
        clear HT HQ HR HBP
        go_wp2_with (first | refine wpList_load_var rfl _ rfl Tryz.underlying32 rfl rfl v8 (by kernel_rfl) ?_ | (refine wpList_store_var rfl _ _ rfl rfl rfl st.vr rfl (by kernel_rfl) (by simp [Value.oneCell']) ?_; intro W9 v9 o9))
        refine bodyPost_ret (results_var_tmp rfl rfl rfl v9 Tryz.underlying32 rfl (by kernel_rfl)) rfl ?_
        exact ⟨A, n, c, D, m, d, rfl, (hx8.only o9 (by omega)).down (by omega), Only.below st.below o9 (Nat.le_refl _)⟩
      | false =>
        obtain ⟨rfl, rfl⟩ : er = 70 ∧ x = noEn := by
          rcases HT.out with ⟨_, _, h, _⟩ | ⟨_, h, h'⟩
          · have := HQ.out.2 h; cases this
          · exact ⟨h, h'⟩
        clear HT HQ HR HBP hx8 v8
        go_wp2_with (refine wpList_store_var rfl _ _ rfl rfl rfl st.vr rfl (by kernel_rfl) (by simp [Value.oneCell']) ?_; intro W9 v9 o9)
        refine bodyPost_ret (results_var_tmp rfl rfl rfl v9 Tryz.underlying32 rfl (by kernel_rfl)) rfl ?_
        exact ⟨none, 0, 0, none, 0, 0, rfl, noEn_own _ _, Only.below st.below o9 (Nat.le_refl _)⟩
    · have y0 : ((70 : Int) != 0) = true := by decide
      obtain ⟨rfl, rfl⟩ : er = 70 ∧ x = noEn := by
        rcases HT.out with ⟨h1, h2, _⟩ | ⟨_, h, h'⟩
        · rcases hbp with h | h
          · rw [h1] at h; cases h
          · exact absurd h2 h
        · exact ⟨h, h'⟩
      clear HT HR hx7 v7 hbp HER bq
      go_wp2_with (refine wpList_store_var rfl _ _ rfl rfl rfl st.vr rfl (by kernel_rfl) (by simp [Value.oneCell']) ?_; intro W9 v9 o9)
      refine bodyPost_ret (results_var_tmp rfl rfl rfl v9 Tryz.underlying32 rfl (by kernel_rfl)) rfl ?_
      exact ⟨none, 0, 0, none, 0, 0, rfl, noEn_own _ _, Only.below st.below o9 (Nat.le_refl _)⟩

set_option maxRecDepth 100000 in
set_option maxHeartbeats 2000000 in
theorem eread_cut (s : ByteArray) (x : En) (er : Int) (p0 p : Nat) (b0 bad : Bool) (yb : Bt) (yes : Bool) (nx off : Int) (yr : Rw) (yp : Pd) (w : World) (hx : s.size ≤ 1000000) (h0 : NumIs s 0 false 0 6 2 p0 b0) (hR : ReadsK s p0 b0 ⟨2, yb, yes, nx, off, yr, yp⟩ p bad 63) (hT : Told s x er ⟨2, yb, yes, nx, off, yr, yp⟩ p bad) :
    Calls Tryz.prog 18 #[.string s] w (EReadOwn w x er) := by
  have H0 := Lib.hid h0
  have HR := Lib.hid hR
  have HT := Lib.hid hT
  clear h0 hR hT
  obtain ⟨W0, hW0⟩ : ∃ W0, W0 = w.alloc (.cells #[.int .i8 0, .int .i64 0, .int .i64 0, .int .i64 0, .bool false, .slice none 0 0, .bool false, .int .i64 0, .int .i64 0, .int .i64 0, .int .i64 0, .int .i64 0, .string ⟨#[]⟩, .string ⟨#[]⟩, .int .i64 0, .int .i64 0, .int .i64 0, .slice none 0 0] 32) := ⟨_, rfl⟩
  have v0 : Var W0 w.heap.size 32 #[.int .i8 0, .int .i64 0, .int .i64 0, .int .i64 0, .bool false, .slice none 0 0, .bool false, .int .i64 0, .int .i64 0, .int .i64 0, .int .i64 0, .int .i64 0, .string ⟨#[]⟩, .string ⟨#[]⟩, .int .i64 0, .int .i64 0, .int .i64 0, .slice none 0 0] := by rw [hW0]; exact Var.new _ _ _
  have b0' : Below w.heap.size w W0 := by rw [hW0]; exact below_new _
  have HW0 := Lib.hid hW0
  clear hW0
  go_enter Tryz.func18, Tryz.ntmps18
  go_upto_region 1 with fail
  rw [← HW0.out]
  go_wp2_with fail
  refine (new_any s W0).mono ?_
  rintro e W1 ⟨rfl, hr1, h1⟩
  obtain ⟨g, hgg⟩ : ∃ g, g = W0.heap.size := ⟨_, rfl⟩
  have hgw : w.heap.size < g := by rw [hgg]; exact v0.lt
  have v1 := v0.below h1 v0.lt
  have bb1 := b0'.trans (h1.mono b0'.size)
  rw [← hgg] at hr1 ⊢
  clear hgg v0 b0' h1 HW0
  have hg1 : g < W1.heap.size := Var.lt hr1
  go_upto_region 2 with fail
  obtain ⟨b4, hb4⟩ : ∃ b4, b4 = W1.heap.size := ⟨_, rfl⟩
  refine wp_at (C := fun W => Rd 105 W g s 0 false ∧ Var W b4 89 #[.pointer (some ⟨g, 0, none⟩)] ∧ Var W w.heap.size 32 #[.int .i8 0, .int .i64 0, .int .i64 0, .int .i64 0, .bool false, .slice none 0 0, .bool false, .int .i64 0, .int .i64 0, .int .i64 0, .int .i64 0, .int .i64 0, .string ⟨#[]⟩, .string ⟨#[]⟩, .int .i64 0, .int .i64 0, .int .i64 0, .slice none 0 0] ∧ Below w.heap.size w W) ⟨Var.alloc hr1 _, by rw [hb4]; exact Var.new _ _ _, v1.alloc _, bb1.alloc bb1.size _⟩ ?_
  rw [← hb4] at hg1 ⊢
  clear hr1 v1 bb1 hb4
  rintro W2 ⟨hr2, vb2, v2, bb2⟩
  go_wp2_with fail
  refine (kinds_any W2).mono ?_
  rintro e W3 ⟨rfl, h3⟩
  obtain ⟨b5, hb5⟩ : ∃ b5, b5 = W3.heap.size := ⟨_, rfl⟩
  have hb45 : b4 < b5 := by rw [hb5]; exact Nat.lt_of_lt_of_le vb2.lt h3.size
  have vb3 := vb2.below h3 vb2.lt
  have hr3 := Var.below hr2 h3 (Var.lt hr2)
  have v3 := v2.below h3 v2.lt
  have bb3 := bb2.trans (h3.mono bb2.size)
  clear hr2 vb2 v2 bb2 h3
  go_wp2_with (refine wpList_store_var rfl _ _ rfl rfl rfl (Var.new W3 #[.nilFunc, .nilFunc, .nilFunc, .nilFunc, .nilFunc, .nilFunc, .nilFunc, .nilFunc, .nilFunc, .nilFunc, .nilFunc, .nilFunc, .nilFunc, .nilFunc] 66) rfl (by kernel_rfl) (by simp [Value.oneCell', kindsV]) ?_; intro W4 v4 o4; have st : R1 w W4 g b4 b5 s 0 false := ⟨o4.var (Var.alloc hr3 _) (by omega), o4.var (vb3.alloc _) (by omega), by rw [hb5]; exact v4, o4.var (v3.alloc _) (by omega), Only.below (bb3.alloc bb3.size _) o4 (by have := bb3.size; omega), ⟨hgw, hg1, hb45⟩⟩; clear hr3 vb3 v3 bb3 v4 o4; have hcc := st.vb.cell 0 rfl; have hcl := st.vb.lt)
  rw [← hb5]
  clear hb5
  refine (number_all g s 0 false 0 6 2 p0 b0 W4 H0.out st.rd hx (Nat.zero_le _)).mono ?_
  rintro e W5 ⟨rfl, hr5, k5⟩
  have st := st.read hr5 k5
  clear hcc hcl hr5 k5 H0
  go_upto_region 4 with fail
  go_cut [7] (fun s7 wx => ∃ x7 A n c D m d, s7 = .pointer (some ⟨x7, 0, none⟩) ∧ b5 < x7 ∧ Var wx x7 32 (evals ⟨0, yb, yes, nx, off, yr, yp⟩ A n c D m d) ∧ EOwn (g + 1) wx ⟨2, yb, yes, nx, off, yr, yp⟩ A n c D m d ∧ R1 w wx g b4 b5 s p bad)
  case first =>
    have st := st.next (w' := W5.drew) ((Below.refl _ _).drew)
    have hcur := And.intro st.vb st.vk
    refine wp_region_held_drew (S := fun w' => Var w' b4 89 #[.pointer (some ⟨g, 0, none⟩)] ∧ Var w' b5 66 kindsV) (by kernel_rfl) hcur (fun hHeld => ?_)
    clear hHeld
    generalize W5.drew = Wc at st hcur ⊢
    refine fld_takes [0, 1, 2, 3, 4] _ 3 _ _ _ (by kernel_rfl) (fun _ d _ _ _ h => by cases d <;> exact h) (by rfl) (by kernel_rfl) (by assumption) ?_
    refine fld_taken (v := ?_) rfl (by rfl) (fun w' hw' => ?_) ?_
    rotate_left
    · (go_simp <;> with_reducible rfl)
    simp only [Act.put, List.getElem_toArray, List.getElem_cons_zero, List.setIfInBounds_toArray, List.set_cons_zero, List.set_cons_succ]
    refine fld_taken (v := ?_) rfl (by rfl) (fun w' hw' => ?_) ?_
    rotate_left
    · (go_simp <;> with_reducible rfl)
    simp only [Act.put, List.getElem_toArray, List.getElem_cons_succ, List.getElem_cons_zero, List.setIfInBounds_toArray, List.set_cons_zero, List.set_cons_succ]
    refine fld_taken (v := ?_) rfl (by rfl) (fun w' hw' => ?_) ?_
    rotate_left
    · (go_simp <;> with_reducible rfl)
    simp only [Act.put, List.getElem_toArray, List.getElem_cons_succ, List.getElem_cons_zero, List.setIfInBounds_toArray, List.set_cons_zero, List.set_cons_succ]
    refine fld_taken (v := ?_) rfl (by rfl) (fun w' hw' => ?_) ?_
    rotate_left
    · have hc := hw'.2.cell 5 rfl
      go_simp <;> with_reducible rfl
    simp only [Act.put, List.getElem_toArray, List.getElem_cons_succ, List.getElem_cons_zero, List.setIfInBounds_toArray, List.set_cons_zero, List.set_cons_succ]
    refine fld_taken (v := ?_) rfl (by rfl) (fun w' hw' => ?_) ?_
    rotate_left
    · have hc := hw'.1.cell 0 rfl
      go_simp <;> with_reducible rfl
    simp only [Act.put, List.getElem_toArray, List.getElem_cons_succ, List.getElem_cons_zero, List.setIfInBounds_toArray, List.set_cons_zero, List.set_cons_succ]
    refine fld_taken_nil ?_
    refine fld_two (i := 5) (j := 6) (by kernel_rfl) rfl rfl (by rfl) (by rfl) (fun K hK => ?_) (fun K hK => ?_)
    · go_simp
      refine (HR.out g Wc st.rd).mono ?_
      rintro e Wn ⟨A, n, c, D, m, d, rfl, ho, hr, hk⟩
      have hw7 : b5 < Wc.heap.size := st.vk.lt
      have st := st.read hr hk
      have ho := ho.down (B := g + 1) (by have := st.hg; omega)
      obtain ⟨Wc, hWc⟩ : ∃ Wc, Wc = Wn := ⟨_, rfl⟩
      subst hWc
      clear hr
      go_wp2_with fail
      have hcur := And.intro st.vb st.vk
      refine hK.out _ _ hcur ?_
      clear hK K
      clear hk
      refine fld_alone (i := 6) (by kernel_rfl) rfl (by rfl) (fun K hK => ?_)
      go_wp2_with fail
      obtain ⟨x, hxx⟩ : ∃ x, x = Wc.heap.size := ⟨_, rfl⟩
      obtain ⟨Wn, hWn⟩ : ∃ Wn, Wn = Wc.alloc (.cells #[.int .i8 0, .int .i64 0, .int .i64 0, .int .i64 0, .bool false, .slice none 0 0, .bool false, .int .i64 0, .int .i64 0, .int .i64 0, .int .i64 0, .int .i64 0, .string ⟨#[]⟩, .string ⟨#[]⟩, .int .i64 0, .int .i64 0, .int .i64 0, .slice none 0 0] 32) := ⟨_, rfl⟩
      have v7 := Var.new Wc #[.int .i8 0, .int .i64 0, .int .i64 0, .int .i64 0, .bool false, .slice none 0 0, .bool false, .int .i64 0, .int .i64 0, .int .i64 0, .int .i64 0, .int .i64 0, .string ⟨#[]⟩, .string ⟨#[]⟩, .int .i64 0, .int .i64 0, .int .i64 0, .slice none 0 0] 32
      have hx7 := st.vk.lt
      have bn := below_new (w := Wc) (.cells #[.int .i8 0, .int .i64 0, .int .i64 0, .int .i64 0, .bool false, .slice none 0 0, .bool false, .int .i64 0, .int .i64 0, .int .i64 0, .int .i64 0, .int .i64 0, .string ⟨#[]⟩, .string ⟨#[]⟩, .int .i64 0, .int .i64 0, .int .i64 0, .slice none 0 0] 32)
      have st := st.next bn
      have ho := ho.next bn
      rw [← hWn, ← hxx] at v7
      rw [← hWn] at st ho
      rw [← hxx] at hx7
      rw [← hWn, ← hxx]
      clear hWn hxx bn
      obtain ⟨Wc, hWc⟩ : ∃ Wc, Wc = Wn := ⟨_, rfl⟩
      subst hWc
      have hcur := And.intro st.vb st.vk
      refine hK.out _ _ hcur ?_
      clear hK K
      refine fld_alone (i := 7) (by kernel_rfl) rfl (by rfl) (fun K hK => ?_)
      refine wp_store_var (.tmp 7) (.tmp 20) rfl rfl rfl v7 rfl (by kernel_rfl) (by simp [Value.oneCell', evals]) ?_
      intro Wn v9 o9
      have ho := ho.low v7 o9
      have st := st.only o9 hx7
      clear v7 o9
      have hcur := And.intro st.vb st.vk
      refine hK.out _ _ hcur ?_
      clear hK K
      refine wpAnyH_done (by kernel_rfl) ?_ _
      go_wp2_with fail
      go_meet
      exact ⟨x, A, n, c, D, m, d, rfl, hx7, v9, ho, st⟩

    · go_wp2_with fail
      obtain ⟨x, hxx⟩ : ∃ x, x = Wc.heap.size := ⟨_, rfl⟩
      obtain ⟨Wn, hWn⟩ : ∃ Wn, Wn = Wc.alloc (.cells #[.int .i8 0, .int .i64 0, .int .i64 0, .int .i64 0, .bool false, .slice none 0 0, .bool false, .int .i64 0, .int .i64 0, .int .i64 0, .int .i64 0, .int .i64 0, .string ⟨#[]⟩, .string ⟨#[]⟩, .int .i64 0, .int .i64 0, .int .i64 0, .slice none 0 0] 32) := ⟨_, rfl⟩
      have v7 := Var.new Wc #[.int .i8 0, .int .i64 0, .int .i64 0, .int .i64 0, .bool false, .slice none 0 0, .bool false, .int .i64 0, .int .i64 0, .int .i64 0, .int .i64 0, .int .i64 0, .string ⟨#[]⟩, .string ⟨#[]⟩, .int .i64 0, .int .i64 0, .int .i64 0, .slice none 0 0] 32
      have hx7 := st.vk.lt
      have bn := below_new (w := Wc) (.cells #[.int .i8 0, .int .i64 0, .int .i64 0, .int .i64 0, .bool false, .slice none 0 0, .bool false, .int .i64 0, .int .i64 0, .int .i64 0, .int .i64 0, .int .i64 0, .string ⟨#[]⟩, .string ⟨#[]⟩, .int .i64 0, .int .i64 0, .int .i64 0, .slice none 0 0] 32)
      have st := st.next bn
      rw [← hWn, ← hxx] at v7
      rw [← hWn] at st
      rw [← hxx] at hx7
      rw [← hWn, ← hxx]
      clear hWn hxx bn
      obtain ⟨Wc, hWc⟩ : ∃ Wc, Wc = Wn := ⟨_, rfl⟩
      subst hWc
      have hcur := And.intro st.vb st.vk
      refine hK.out _ _ hcur ?_
      clear hK K
      refine fld_alone (i := 5) (by kernel_rfl) rfl (by rfl) (fun K hK => ?_)
      go_simp
      refine (HR.out g Wc st.rd).mono ?_
      rintro e Wn ⟨A, n, c, D, m, d, rfl, ho, hr, hk⟩
      have hw7 : b5 < Wc.heap.size := st.vk.lt
      have st := st.read hr hk
      have ho := ho.down (B := g + 1) (by have := st.hg; omega)
      have v7 := v7.kept hk (by have := st.hg; simp; omega)
      obtain ⟨Wc, hWc⟩ : ∃ Wc, Wc = Wn := ⟨_, rfl⟩
      subst hWc
      clear hr
      go_wp2_with fail
      have hcur := And.intro st.vb st.vk
      refine hK.out _ _ hcur ?_
      clear hK K
      clear hk
      refine fld_alone (i := 7) (by kernel_rfl) rfl (by rfl) (fun K hK => ?_)
      refine wp_store_var (.tmp 7) (.tmp 20) rfl rfl rfl v7 rfl (by kernel_rfl) (by simp [Value.oneCell', evals]) ?_
      intro Wn v9 o9
      have ho := ho.low v7 o9
      have st := st.only o9 hx7
      clear v7 o9
      have hcur := And.intro st.vb st.vk
      refine hK.out _ _ hcur ?_
      clear hK K
      refine wpAnyH_done (by kernel_rfl) ?_ _
      go_wp2_with fail
      go_meet
      exact ⟨x, A, n, c, D, m, d, rfl, hx7, v9, ho, st⟩
  case rest =>
    obtain ⟨x7, A, n, c, D, m, d, rfl, hx7, v7, ho, st⟩ := hcut
    simp only [evals] at v7
    have hcc := v7.cell 0 rfl
    have hf := v7.free
    have hcl := v7.lt
    go_upto_region 6 with fail
    have v8 := v7.set 0 (.int .i8 2)
    simp only [List.setIfInBounds_toArray, List.set_cons_zero] at v8
    refine wp_at (C := fun W => Var W x7 32 (evals ⟨2, yb, yes, nx, off, yr, yp⟩ A n c D m d) ∧ EOwn (g + 1) W ⟨2, yb, yes, nx, off, yr, yp⟩ A n c D m d ∧ R1 w W g b4 b5 s p bad) ⟨v8, ho.low v7 (Only.setCell _ _ _ _), st.only (Only.setCell _ _ _ _) hx7⟩ ?_
    clear v7 v8 hcc hf hcl ho st
    rintro W6 ⟨v6, hx6, st⟩
    simp only [evals] at v6
    have hcc := st.vb.cell 0 rfl
    have hcl := st.vb.lt
    obtain ⟨er0, her⟩ := endIs_of s p bad
    have HER := Lib.hid her
    clear her
    go_wp2_with fail
    refine (end_all g s p bad er0 W6 HER.out st.rd).mono ?_
    rintro e W7 ⟨rfl, nq, rfl⟩
    have bq : Below W6.heap.size W6 (W6.drewN nq) := (Below.refl _ _).drewN' nq
    have st := st.next bq
    have hx7 := hx6.next bq
    have v7 := v6.drewN nq
    clear hx6 v6 hcc hcl
    generalize W6.drewN nq = W7 at bq st hx7 v7 ⊢
    rcases HER.out with ⟨hbad, hps, rfl⟩ | ⟨hbp, rfl⟩
    · have y0 : ((0 : Int) != 0) = false := by decide
      have HBP : Hid (bad = false ∧ p = s.size) := ⟨hbad, hps⟩
      clear hbad hps HER
      obtain ⟨q, hq⟩ := iff_of (En.Good ⟨2, yb, yes, nx, off, yr, yp⟩)
      have HQ := Lib.hid hq
      clear hq
      go_wp2_with (refine wpList_load_want (by rfl) _ rfl Tryz.underlying32 rfl rfl v7 (by kernel_rfl) ?_)
      refine (emay_any ⟨2, yb, yes, nx, off, yr, yp⟩ A D n c m d W7.heap.size q W7 hx7.ein (Nat.le_refl _) HQ.out).mono ?_
      rintro e W8 ⟨rfl, h8⟩
      have st := st.next h8
      have v8 := v7.below h8 v7.lt
      have hx8 := hx7.next h8
      clear v7 hx7 bq
      cases q with
      | true =>
        obtain ⟨rfl, rfl⟩ : er = 0 ∧ x = ⟨2, yb, yes, nx, off, yr, yp⟩ := by
          rcases HT.out with ⟨_, _, _, h, h'⟩ | ⟨h | h | h, _⟩
          · exact ⟨h, h'⟩
          · rw [HBP.out.1] at h; cases h
          · exact absurd HBP.out.2 h
          · exact absurd (HQ.out.1 (by first | rfl | trivial)) h
        clear HT HQ HR HBP
        go_wp2_with (first | refine wpList_load_var rfl _ rfl Tryz.underlying32 rfl rfl v8 (by kernel_rfl) ?_ | (refine wpList_store_var rfl _ _ rfl rfl rfl st.vr rfl (by kernel_rfl) (by simp [Value.oneCell']) ?_; intro W9 v9 o9))
        refine bodyPost_ret (results_var_tmp rfl rfl rfl v9 Tryz.underlying32 rfl (by kernel_rfl)) rfl ?_
        exact ⟨A, n, c, D, m, d, rfl, (hx8.only o9 (by omega)).down (by omega), Only.below st.below o9 (Nat.le_refl _)⟩
      | false =>
        obtain ⟨rfl, rfl⟩ : er = 70 ∧ x = noEn := by
          rcases HT.out with ⟨_, _, h, _⟩ | ⟨_, h, h'⟩
          · have := HQ.out.2 h; cases this
          · exact ⟨h, h'⟩
        clear HT HQ HR HBP hx8 v8
        go_wp2_with (refine wpList_store_var rfl _ _ rfl rfl rfl st.vr rfl (by kernel_rfl) (by simp [Value.oneCell']) ?_; intro W9 v9 o9)
        refine bodyPost_ret (results_var_tmp rfl rfl rfl v9 Tryz.underlying32 rfl (by kernel_rfl)) rfl ?_
        exact ⟨none, 0, 0, none, 0, 0, rfl, noEn_own _ _, Only.below st.below o9 (Nat.le_refl _)⟩
    · have y0 : ((70 : Int) != 0) = true := by decide
      obtain ⟨rfl, rfl⟩ : er = 70 ∧ x = noEn := by
        rcases HT.out with ⟨h1, h2, _⟩ | ⟨_, h, h'⟩
        · rcases hbp with h | h
          · rw [h1] at h; cases h
          · exact absurd h2 h
        · exact ⟨h, h'⟩
      clear HT HR hx7 v7 hbp HER bq
      go_wp2_with (refine wpList_store_var rfl _ _ rfl rfl rfl st.vr rfl (by kernel_rfl) (by simp [Value.oneCell']) ?_; intro W9 v9 o9)
      refine bodyPost_ret (results_var_tmp rfl rfl rfl v9 Tryz.underlying32 rfl (by kernel_rfl)) rfl ?_
      exact ⟨none, 0, 0, none, 0, 0, rfl, noEn_own _ _, Only.below st.below o9 (Nat.le_refl _)⟩

set_option maxRecDepth 100000 in
set_option maxHeartbeats 2000000 in
theorem eread_copied (s : ByteArray) (x : En) (er : Int) (p0 p : Nat) (b0 bad : Bool) (yb : Bt) (yes : Bool) (nx off : Int) (yr : Rw) (yp : Pd) (w : World) (hx : s.size ≤ 1000000) (h0 : NumIs s 0 false 0 6 3 p0 b0) (hR : ReadsK s p0 b0 ⟨3, yb, yes, nx, off, yr, yp⟩ p bad 65) (hT : Told s x er ⟨3, yb, yes, nx, off, yr, yp⟩ p bad) :
    Calls Tryz.prog 18 #[.string s] w (EReadOwn w x er) := by
  have H0 := Lib.hid h0
  have HR := Lib.hid hR
  have HT := Lib.hid hT
  clear h0 hR hT
  obtain ⟨W0, hW0⟩ : ∃ W0, W0 = w.alloc (.cells #[.int .i8 0, .int .i64 0, .int .i64 0, .int .i64 0, .bool false, .slice none 0 0, .bool false, .int .i64 0, .int .i64 0, .int .i64 0, .int .i64 0, .int .i64 0, .string ⟨#[]⟩, .string ⟨#[]⟩, .int .i64 0, .int .i64 0, .int .i64 0, .slice none 0 0] 32) := ⟨_, rfl⟩
  have v0 : Var W0 w.heap.size 32 #[.int .i8 0, .int .i64 0, .int .i64 0, .int .i64 0, .bool false, .slice none 0 0, .bool false, .int .i64 0, .int .i64 0, .int .i64 0, .int .i64 0, .int .i64 0, .string ⟨#[]⟩, .string ⟨#[]⟩, .int .i64 0, .int .i64 0, .int .i64 0, .slice none 0 0] := by rw [hW0]; exact Var.new _ _ _
  have b0' : Below w.heap.size w W0 := by rw [hW0]; exact below_new _
  have HW0 := Lib.hid hW0
  clear hW0
  go_enter Tryz.func18, Tryz.ntmps18
  go_upto_region 1 with fail
  rw [← HW0.out]
  go_wp2_with fail
  refine (new_any s W0).mono ?_
  rintro e W1 ⟨rfl, hr1, h1⟩
  obtain ⟨g, hgg⟩ : ∃ g, g = W0.heap.size := ⟨_, rfl⟩
  have hgw : w.heap.size < g := by rw [hgg]; exact v0.lt
  have v1 := v0.below h1 v0.lt
  have bb1 := b0'.trans (h1.mono b0'.size)
  rw [← hgg] at hr1 ⊢
  clear hgg v0 b0' h1 HW0
  have hg1 : g < W1.heap.size := Var.lt hr1
  go_upto_region 2 with fail
  obtain ⟨b4, hb4⟩ : ∃ b4, b4 = W1.heap.size := ⟨_, rfl⟩
  refine wp_at (C := fun W => Rd 105 W g s 0 false ∧ Var W b4 89 #[.pointer (some ⟨g, 0, none⟩)] ∧ Var W w.heap.size 32 #[.int .i8 0, .int .i64 0, .int .i64 0, .int .i64 0, .bool false, .slice none 0 0, .bool false, .int .i64 0, .int .i64 0, .int .i64 0, .int .i64 0, .int .i64 0, .string ⟨#[]⟩, .string ⟨#[]⟩, .int .i64 0, .int .i64 0, .int .i64 0, .slice none 0 0] ∧ Below w.heap.size w W) ⟨Var.alloc hr1 _, by rw [hb4]; exact Var.new _ _ _, v1.alloc _, bb1.alloc bb1.size _⟩ ?_
  rw [← hb4] at hg1 ⊢
  clear hr1 v1 bb1 hb4
  rintro W2 ⟨hr2, vb2, v2, bb2⟩
  go_wp2_with fail
  refine (kinds_any W2).mono ?_
  rintro e W3 ⟨rfl, h3⟩
  obtain ⟨b5, hb5⟩ : ∃ b5, b5 = W3.heap.size := ⟨_, rfl⟩
  have hb45 : b4 < b5 := by rw [hb5]; exact Nat.lt_of_lt_of_le vb2.lt h3.size
  have vb3 := vb2.below h3 vb2.lt
  have hr3 := Var.below hr2 h3 (Var.lt hr2)
  have v3 := v2.below h3 v2.lt
  have bb3 := bb2.trans (h3.mono bb2.size)
  clear hr2 vb2 v2 bb2 h3
  go_wp2_with (refine wpList_store_var rfl _ _ rfl rfl rfl (Var.new W3 #[.nilFunc, .nilFunc, .nilFunc, .nilFunc, .nilFunc, .nilFunc, .nilFunc, .nilFunc, .nilFunc, .nilFunc, .nilFunc, .nilFunc, .nilFunc, .nilFunc] 66) rfl (by kernel_rfl) (by simp [Value.oneCell', kindsV]) ?_; intro W4 v4 o4; have st : R1 w W4 g b4 b5 s 0 false := ⟨o4.var (Var.alloc hr3 _) (by omega), o4.var (vb3.alloc _) (by omega), by rw [hb5]; exact v4, o4.var (v3.alloc _) (by omega), Only.below (bb3.alloc bb3.size _) o4 (by have := bb3.size; omega), ⟨hgw, hg1, hb45⟩⟩; clear hr3 vb3 v3 bb3 v4 o4; have hcc := st.vb.cell 0 rfl; have hcl := st.vb.lt)
  rw [← hb5]
  clear hb5
  refine (number_all g s 0 false 0 6 3 p0 b0 W4 H0.out st.rd hx (Nat.zero_le _)).mono ?_
  rintro e W5 ⟨rfl, hr5, k5⟩
  have st := st.read hr5 k5
  clear hcc hcl hr5 k5 H0
  go_upto_region 4 with fail
  go_cut [7] (fun s7 wx => ∃ x7 A n c D m d, s7 = .pointer (some ⟨x7, 0, none⟩) ∧ b5 < x7 ∧ Var wx x7 32 (evals ⟨0, yb, yes, nx, off, yr, yp⟩ A n c D m d) ∧ EOwn (g + 1) wx ⟨3, yb, yes, nx, off, yr, yp⟩ A n c D m d ∧ R1 w wx g b4 b5 s p bad)
  case first =>
    have st := st.next (w' := W5.drew) ((Below.refl _ _).drew)
    have hcur := And.intro st.vb st.vk
    refine wp_region_held_drew (S := fun w' => Var w' b4 89 #[.pointer (some ⟨g, 0, none⟩)] ∧ Var w' b5 66 kindsV) (by kernel_rfl) hcur (fun hHeld => ?_)
    clear hHeld
    generalize W5.drew = Wc at st hcur ⊢
    refine fld_takes [0, 1, 2, 3, 4] _ 3 _ _ _ (by kernel_rfl) (fun _ d _ _ _ h => by cases d <;> exact h) (by rfl) (by kernel_rfl) (by assumption) ?_
    refine fld_taken (v := ?_) rfl (by rfl) (fun w' hw' => ?_) ?_
    rotate_left
    · (go_simp <;> with_reducible rfl)
    simp only [Act.put, List.getElem_toArray, List.getElem_cons_zero, List.setIfInBounds_toArray, List.set_cons_zero, List.set_cons_succ]
    refine fld_taken (v := ?_) rfl (by rfl) (fun w' hw' => ?_) ?_
    rotate_left
    · (go_simp <;> with_reducible rfl)
    simp only [Act.put, List.getElem_toArray, List.getElem_cons_succ, List.getElem_cons_zero, List.setIfInBounds_toArray, List.set_cons_zero, List.set_cons_succ]
    refine fld_taken (v := ?_) rfl (by rfl) (fun w' hw' => ?_) ?_
    rotate_left
    · (go_simp <;> with_reducible rfl)
    simp only [Act.put, List.getElem_toArray, List.getElem_cons_succ, List.getElem_cons_zero, List.setIfInBounds_toArray, List.set_cons_zero, List.set_cons_succ]
    refine fld_taken (v := ?_) rfl (by rfl) (fun w' hw' => ?_) ?_
    rotate_left
    · have hc := hw'.2.cell 7 rfl
      go_simp <;> with_reducible rfl
    simp only [Act.put, List.getElem_toArray, List.getElem_cons_succ, List.getElem_cons_zero, List.setIfInBounds_toArray, List.set_cons_zero, List.set_cons_succ]
    refine fld_taken (v := ?_) rfl (by rfl) (fun w' hw' => ?_) ?_
    rotate_left
    · have hc := hw'.1.cell 0 rfl
      go_simp <;> with_reducible rfl
    simp only [Act.put, List.getElem_toArray, List.getElem_cons_succ, List.getElem_cons_zero, List.setIfInBounds_toArray, List.set_cons_zero, List.set_cons_succ]
    refine fld_taken_nil ?_
    refine fld_two (i := 5) (j := 6) (by kernel_rfl) rfl rfl (by rfl) (by rfl) (fun K hK => ?_) (fun K hK => ?_)
    · go_simp
      refine (HR.out g Wc st.rd).mono ?_
      rintro e Wn ⟨A, n, c, D, m, d, rfl, ho, hr, hk⟩
      have hw7 : b5 < Wc.heap.size := st.vk.lt
      have st := st.read hr hk
      have ho := ho.down (B := g + 1) (by have := st.hg; omega)
      obtain ⟨Wc, hWc⟩ : ∃ Wc, Wc = Wn := ⟨_, rfl⟩
      subst hWc
      clear hr
      go_wp2_with fail
      have hcur := And.intro st.vb st.vk
      refine hK.out _ _ hcur ?_
      clear hK K
      clear hk
      refine fld_alone (i := 6) (by kernel_rfl) rfl (by rfl) (fun K hK => ?_)
      go_wp2_with fail
      obtain ⟨x, hxx⟩ : ∃ x, x = Wc.heap.size := ⟨_, rfl⟩
      obtain ⟨Wn, hWn⟩ : ∃ Wn, Wn = Wc.alloc (.cells #[.int .i8 0, .int .i64 0, .int .i64 0, .int .i64 0, .bool false, .slice none 0 0, .bool false, .int .i64 0, .int .i64 0, .int .i64 0, .int .i64 0, .int .i64 0, .string ⟨#[]⟩, .string ⟨#[]⟩, .int .i64 0, .int .i64 0, .int .i64 0, .slice none 0 0] 32) := ⟨_, rfl⟩
      have v7 := Var.new Wc #[.int .i8 0, .int .i64 0, .int .i64 0, .int .i64 0, .bool false, .slice none 0 0, .bool false, .int .i64 0, .int .i64 0, .int .i64 0, .int .i64 0, .int .i64 0, .string ⟨#[]⟩, .string ⟨#[]⟩, .int .i64 0, .int .i64 0, .int .i64 0, .slice none 0 0] 32
      have hx7 := st.vk.lt
      have bn := below_new (w := Wc) (.cells #[.int .i8 0, .int .i64 0, .int .i64 0, .int .i64 0, .bool false, .slice none 0 0, .bool false, .int .i64 0, .int .i64 0, .int .i64 0, .int .i64 0, .int .i64 0, .string ⟨#[]⟩, .string ⟨#[]⟩, .int .i64 0, .int .i64 0, .int .i64 0, .slice none 0 0] 32)
      have st := st.next bn
      have ho := ho.next bn
      rw [← hWn, ← hxx] at v7
      rw [← hWn] at st ho
      rw [← hxx] at hx7
      rw [← hWn, ← hxx]
      clear hWn hxx bn
      obtain ⟨Wc, hWc⟩ : ∃ Wc, Wc = Wn := ⟨_, rfl⟩
      subst hWc
      have hcur := And.intro st.vb st.vk
      refine hK.out _ _ hcur ?_
      clear hK K
      refine fld_alone (i := 7) (by kernel_rfl) rfl (by rfl) (fun K hK => ?_)
      refine wp_store_var (.tmp 7) (.tmp 20) rfl rfl rfl v7 rfl (by kernel_rfl) (by simp [Value.oneCell', evals]) ?_
      intro Wn v9 o9
      have ho := ho.low v7 o9
      have st := st.only o9 hx7
      clear v7 o9
      have hcur := And.intro st.vb st.vk
      refine hK.out _ _ hcur ?_
      clear hK K
      refine wpAnyH_done (by kernel_rfl) ?_ _
      go_wp2_with fail
      go_meet
      exact ⟨x, A, n, c, D, m, d, rfl, hx7, v9, ho, st⟩

    · go_wp2_with fail
      obtain ⟨x, hxx⟩ : ∃ x, x = Wc.heap.size := ⟨_, rfl⟩
      obtain ⟨Wn, hWn⟩ : ∃ Wn, Wn = Wc.alloc (.cells #[.int .i8 0, .int .i64 0, .int .i64 0, .int .i64 0, .bool false, .slice none 0 0, .bool false, .int .i64 0, .int .i64 0, .int .i64 0, .int .i64 0, .int .i64 0, .string ⟨#[]⟩, .string ⟨#[]⟩, .int .i64 0, .int .i64 0, .int .i64 0, .slice none 0 0] 32) := ⟨_, rfl⟩
      have v7 := Var.new Wc #[.int .i8 0, .int .i64 0, .int .i64 0, .int .i64 0, .bool false, .slice none 0 0, .bool false, .int .i64 0, .int .i64 0, .int .i64 0, .int .i64 0, .int .i64 0, .string ⟨#[]⟩, .string ⟨#[]⟩, .int .i64 0, .int .i64 0, .int .i64 0, .slice none 0 0] 32
      have hx7 := st.vk.lt
      have bn := below_new (w := Wc) (.cells #[.int .i8 0, .int .i64 0, .int .i64 0, .int .i64 0, .bool false, .slice none 0 0, .bool false, .int .i64 0, .int .i64 0, .int .i64 0, .int .i64 0, .int .i64 0, .string ⟨#[]⟩, .string ⟨#[]⟩, .int .i64 0, .int .i64 0, .int .i64 0, .slice none 0 0] 32)
      have st := st.next bn
      rw [← hWn, ← hxx] at v7
      rw [← hWn] at st
      rw [← hxx] at hx7
      rw [← hWn, ← hxx]
      clear hWn hxx bn
      obtain ⟨Wc, hWc⟩ : ∃ Wc, Wc = Wn := ⟨_, rfl⟩
      subst hWc
      have hcur := And.intro st.vb st.vk
      refine hK.out _ _ hcur ?_
      clear hK K
      refine fld_alone (i := 5) (by kernel_rfl) rfl (by rfl) (fun K hK => ?_)
      go_simp
      refine (HR.out g Wc st.rd).mono ?_
      rintro e Wn ⟨A, n, c, D, m, d, rfl, ho, hr, hk⟩
      have hw7 : b5 < Wc.heap.size := st.vk.lt
      have st := st.read hr hk
      have ho := ho.down (B := g + 1) (by have := st.hg; omega)
      have v7 := v7.kept hk (by have := st.hg; simp; omega)
      obtain ⟨Wc, hWc⟩ : ∃ Wc, Wc = Wn := ⟨_, rfl⟩
      subst hWc
      clear hr
      go_wp2_with fail
      have hcur := And.intro st.vb st.vk
      refine hK.out _ _ hcur ?_
      clear hK K
      clear hk
      refine fld_alone (i := 7) (by kernel_rfl) rfl (by rfl) (fun K hK => ?_)
      refine wp_store_var (.tmp 7) (.tmp 20) rfl rfl rfl v7 rfl (by kernel_rfl) (by simp [Value.oneCell', evals]) ?_
      intro Wn v9 o9
      have ho := ho.low v7 o9
      have st := st.only o9 hx7
      clear v7 o9
      have hcur := And.intro st.vb st.vk
      refine hK.out _ _ hcur ?_
      clear hK K
      refine wpAnyH_done (by kernel_rfl) ?_ _
      go_wp2_with fail
      go_meet
      exact ⟨x, A, n, c, D, m, d, rfl, hx7, v9, ho, st⟩
  case rest =>
    obtain ⟨x7, A, n, c, D, m, d, rfl, hx7, v7, ho, st⟩ := hcut
    simp only [evals] at v7
    have hcc := v7.cell 0 rfl
    have hf := v7.free
    have hcl := v7.lt
    go_upto_region 6 with fail
    have v8 := v7.set 0 (.int .i8 3)
    simp only [List.setIfInBounds_toArray, List.set_cons_zero] at v8
    refine wp_at (C := fun W => Var W x7 32 (evals ⟨3, yb, yes, nx, off, yr, yp⟩ A n c D m d) ∧ EOwn (g + 1) W ⟨3, yb, yes, nx, off, yr, yp⟩ A n c D m d ∧ R1 w W g b4 b5 s p bad) ⟨v8, ho.low v7 (Only.setCell _ _ _ _), st.only (Only.setCell _ _ _ _) hx7⟩ ?_
    clear v7 v8 hcc hf hcl ho st
    rintro W6 ⟨v6, hx6, st⟩
    simp only [evals] at v6
    have hcc := st.vb.cell 0 rfl
    have hcl := st.vb.lt
    obtain ⟨er0, her⟩ := endIs_of s p bad
    have HER := Lib.hid her
    clear her
    go_wp2_with fail
    refine (end_all g s p bad er0 W6 HER.out st.rd).mono ?_
    rintro e W7 ⟨rfl, nq, rfl⟩
    have bq : Below W6.heap.size W6 (W6.drewN nq) := (Below.refl _ _).drewN' nq
    have st := st.next bq
    have hx7 := hx6.next bq
    have v7 := v6.drewN nq
    clear hx6 v6 hcc hcl
    generalize W6.drewN nq = W7 at bq st hx7 v7 ⊢
    rcases HER.out with ⟨hbad, hps, rfl⟩ | ⟨hbp, rfl⟩
    · have y0 : ((0 : Int) != 0) = false := by decide
      have HBP : Hid (bad = false ∧ p = s.size) := ⟨hbad, hps⟩
      clear hbad hps HER
      obtain ⟨q, hq⟩ := iff_of (En.Good ⟨3, yb, yes, nx, off, yr, yp⟩)
      have HQ := Lib.hid hq
      clear hq
      go_wp2_with (refine wpList_load_want (by rfl) _ rfl Tryz.underlying32 rfl rfl v7 (by kernel_rfl) ?_)
      refine (emay_any ⟨3, yb, yes, nx, off, yr, yp⟩ A D n c m d W7.heap.size q W7 hx7.ein (Nat.le_refl _) HQ.out).mono ?_
      rintro e W8 ⟨rfl, h8⟩
      have st := st.next h8
      have v8 := v7.below h8 v7.lt
      have hx8 := hx7.next h8
      clear v7 hx7 bq
      cases q with
      | true =>
        obtain ⟨rfl, rfl⟩ : er = 0 ∧ x = ⟨3, yb, yes, nx, off, yr, yp⟩ := by
          rcases HT.out with ⟨_, _, _, h, h'⟩ | ⟨h | h | h, _⟩
          · exact ⟨h, h'⟩
          · rw [HBP.out.1] at h; cases h
          · exact absurd HBP.out.2 h
          · exact absurd (HQ.out.1 (by first | rfl | trivial)) h
        clear HT HQ HR HBP
        go_wp2_with (first | refine wpList_load_var rfl _ rfl Tryz.underlying32 rfl rfl v8 (by kernel_rfl) ?_ | (refine wpList_store_var rfl _ _ rfl rfl rfl st.vr rfl (by kernel_rfl) (by simp [Value.oneCell']) ?_; intro W9 v9 o9))
        refine bodyPost_ret (results_var_tmp rfl rfl rfl v9 Tryz.underlying32 rfl (by kernel_rfl)) rfl ?_
        exact ⟨A, n, c, D, m, d, rfl, (hx8.only o9 (by omega)).down (by omega), Only.below st.below o9 (Nat.le_refl _)⟩
      | false =>
        obtain ⟨rfl, rfl⟩ : er = 70 ∧ x = noEn := by
          rcases HT.out with ⟨_, _, h, _⟩ | ⟨_, h, h'⟩
          · have := HQ.out.2 h; cases this
          · exact ⟨h, h'⟩
        clear HT HQ HR HBP hx8 v8
        go_wp2_with (refine wpList_store_var rfl _ _ rfl rfl rfl st.vr rfl (by kernel_rfl) (by simp [Value.oneCell']) ?_; intro W9 v9 o9)
        refine bodyPost_ret (results_var_tmp rfl rfl rfl v9 Tryz.underlying32 rfl (by kernel_rfl)) rfl ?_
        exact ⟨none, 0, 0, none, 0, 0, rfl, noEn_own _ _, Only.below st.below o9 (Nat.le_refl _)⟩
    · have y0 : ((70 : Int) != 0) = true := by decide
      obtain ⟨rfl, rfl⟩ : er = 70 ∧ x = noEn := by
        rcases HT.out with ⟨h1, h2, _⟩ | ⟨_, h, h'⟩
        · rcases hbp with h | h
          · rw [h1] at h; cases h
          · exact absurd h2 h
        · exact ⟨h, h'⟩
      clear HT HR hx7 v7 hbp HER bq
      go_wp2_with (refine wpList_store_var rfl _ _ rfl rfl rfl st.vr rfl (by kernel_rfl) (by simp [Value.oneCell']) ?_; intro W9 v9 o9)
      refine bodyPost_ret (results_var_tmp rfl rfl rfl v9 Tryz.underlying32 rfl (by kernel_rfl)) rfl ?_
      exact ⟨none, 0, 0, none, 0, 0, rfl, noEn_own _ _, Only.below st.below o9 (Nat.le_refl _)⟩

set_option maxRecDepth 100000 in
set_option maxHeartbeats 2000000 in
theorem eread_drop (s : ByteArray) (x : En) (er : Int) (p0 p : Nat) (b0 bad : Bool) (yb : Bt) (yes : Bool) (nx off : Int) (yr : Rw) (yp : Pd) (w : World) (hx : s.size ≤ 1000000) (h0 : NumIs s 0 false 0 6 4 p0 b0) (hR : ReadsK s p0 b0 ⟨4, yb, yes, nx, off, yr, yp⟩ p bad 67) (hT : Told s x er ⟨4, yb, yes, nx, off, yr, yp⟩ p bad) :
    Calls Tryz.prog 18 #[.string s] w (EReadOwn w x er) := by
  have H0 := Lib.hid h0
  have HR := Lib.hid hR
  have HT := Lib.hid hT
  clear h0 hR hT
  obtain ⟨W0, hW0⟩ : ∃ W0, W0 = w.alloc (.cells #[.int .i8 0, .int .i64 0, .int .i64 0, .int .i64 0, .bool false, .slice none 0 0, .bool false, .int .i64 0, .int .i64 0, .int .i64 0, .int .i64 0, .int .i64 0, .string ⟨#[]⟩, .string ⟨#[]⟩, .int .i64 0, .int .i64 0, .int .i64 0, .slice none 0 0] 32) := ⟨_, rfl⟩
  have v0 : Var W0 w.heap.size 32 #[.int .i8 0, .int .i64 0, .int .i64 0, .int .i64 0, .bool false, .slice none 0 0, .bool false, .int .i64 0, .int .i64 0, .int .i64 0, .int .i64 0, .int .i64 0, .string ⟨#[]⟩, .string ⟨#[]⟩, .int .i64 0, .int .i64 0, .int .i64 0, .slice none 0 0] := by rw [hW0]; exact Var.new _ _ _
  have b0' : Below w.heap.size w W0 := by rw [hW0]; exact below_new _
  have HW0 := Lib.hid hW0
  clear hW0
  go_enter Tryz.func18, Tryz.ntmps18
  go_upto_region 1 with fail
  rw [← HW0.out]
  go_wp2_with fail
  refine (new_any s W0).mono ?_
  rintro e W1 ⟨rfl, hr1, h1⟩
  obtain ⟨g, hgg⟩ : ∃ g, g = W0.heap.size := ⟨_, rfl⟩
  have hgw : w.heap.size < g := by rw [hgg]; exact v0.lt
  have v1 := v0.below h1 v0.lt
  have bb1 := b0'.trans (h1.mono b0'.size)
  rw [← hgg] at hr1 ⊢
  clear hgg v0 b0' h1 HW0
  have hg1 : g < W1.heap.size := Var.lt hr1
  go_upto_region 2 with fail
  obtain ⟨b4, hb4⟩ : ∃ b4, b4 = W1.heap.size := ⟨_, rfl⟩
  refine wp_at (C := fun W => Rd 105 W g s 0 false ∧ Var W b4 89 #[.pointer (some ⟨g, 0, none⟩)] ∧ Var W w.heap.size 32 #[.int .i8 0, .int .i64 0, .int .i64 0, .int .i64 0, .bool false, .slice none 0 0, .bool false, .int .i64 0, .int .i64 0, .int .i64 0, .int .i64 0, .int .i64 0, .string ⟨#[]⟩, .string ⟨#[]⟩, .int .i64 0, .int .i64 0, .int .i64 0, .slice none 0 0] ∧ Below w.heap.size w W) ⟨Var.alloc hr1 _, by rw [hb4]; exact Var.new _ _ _, v1.alloc _, bb1.alloc bb1.size _⟩ ?_
  rw [← hb4] at hg1 ⊢
  clear hr1 v1 bb1 hb4
  rintro W2 ⟨hr2, vb2, v2, bb2⟩
  go_wp2_with fail
  refine (kinds_any W2).mono ?_
  rintro e W3 ⟨rfl, h3⟩
  obtain ⟨b5, hb5⟩ : ∃ b5, b5 = W3.heap.size := ⟨_, rfl⟩
  have hb45 : b4 < b5 := by rw [hb5]; exact Nat.lt_of_lt_of_le vb2.lt h3.size
  have vb3 := vb2.below h3 vb2.lt
  have hr3 := Var.below hr2 h3 (Var.lt hr2)
  have v3 := v2.below h3 v2.lt
  have bb3 := bb2.trans (h3.mono bb2.size)
  clear hr2 vb2 v2 bb2 h3
  go_wp2_with (refine wpList_store_var rfl _ _ rfl rfl rfl (Var.new W3 #[.nilFunc, .nilFunc, .nilFunc, .nilFunc, .nilFunc, .nilFunc, .nilFunc, .nilFunc, .nilFunc, .nilFunc, .nilFunc, .nilFunc, .nilFunc, .nilFunc] 66) rfl (by kernel_rfl) (by simp [Value.oneCell', kindsV]) ?_; intro W4 v4 o4; have st : R1 w W4 g b4 b5 s 0 false := ⟨o4.var (Var.alloc hr3 _) (by omega), o4.var (vb3.alloc _) (by omega), by rw [hb5]; exact v4, o4.var (v3.alloc _) (by omega), Only.below (bb3.alloc bb3.size _) o4 (by have := bb3.size; omega), ⟨hgw, hg1, hb45⟩⟩; clear hr3 vb3 v3 bb3 v4 o4; have hcc := st.vb.cell 0 rfl; have hcl := st.vb.lt)
  rw [← hb5]
  clear hb5
  refine (number_all g s 0 false 0 6 4 p0 b0 W4 H0.out st.rd hx (Nat.zero_le _)).mono ?_
  rintro e W5 ⟨rfl, hr5, k5⟩
  have st := st.read hr5 k5
  clear hcc hcl hr5 k5 H0
  go_upto_region 4 with fail
  go_cut [7] (fun s7 wx => ∃ x7 A n c D m d, s7 = .pointer (some ⟨x7, 0, none⟩) ∧ b5 < x7 ∧ Var wx x7 32 (evals ⟨0, yb, yes, nx, off, yr, yp⟩ A n c D m d) ∧ EOwn (g + 1) wx ⟨4, yb, yes, nx, off, yr, yp⟩ A n c D m d ∧ R1 w wx g b4 b5 s p bad)
  case first =>
    have st := st.next (w' := W5.drew) ((Below.refl _ _).drew)
    have hcur := And.intro st.vb st.vk
    refine wp_region_held_drew (S := fun w' => Var w' b4 89 #[.pointer (some ⟨g, 0, none⟩)] ∧ Var w' b5 66 kindsV) (by kernel_rfl) hcur (fun hHeld => ?_)
    clear hHeld
    generalize W5.drew = Wc at st hcur ⊢
    refine fld_takes [0, 1, 2, 3, 4] _ 3 _ _ _ (by kernel_rfl) (fun _ d _ _ _ h => by cases d <;> exact h) (by rfl) (by kernel_rfl) (by assumption) ?_
    refine fld_taken (v := ?_) rfl (by rfl) (fun w' hw' => ?_) ?_
    rotate_left
    · (go_simp <;> with_reducible rfl)
    simp only [Act.put, List.getElem_toArray, List.getElem_cons_zero, List.setIfInBounds_toArray, List.set_cons_zero, List.set_cons_succ]
    refine fld_taken (v := ?_) rfl (by rfl) (fun w' hw' => ?_) ?_
    rotate_left
    · (go_simp <;> with_reducible rfl)
    simp only [Act.put, List.getElem_toArray, List.getElem_cons_succ, List.getElem_cons_zero, List.setIfInBounds_toArray, List.set_cons_zero, List.set_cons_succ]
    refine fld_taken (v := ?_) rfl (by rfl) (fun w' hw' => ?_) ?_
    rotate_left
    · (go_simp <;> with_reducible rfl)
    simp only [Act.put, List.getElem_toArray, List.getElem_cons_succ, List.getElem_cons_zero, List.setIfInBounds_toArray, List.set_cons_zero, List.set_cons_succ]
    refine fld_taken (v := ?_) rfl (by rfl) (fun w' hw' => ?_) ?_
    rotate_left
    · have hc := hw'.2.cell 9 rfl
      go_simp <;> with_reducible rfl
    simp only [Act.put, List.getElem_toArray, List.getElem_cons_succ, List.getElem_cons_zero, List.setIfInBounds_toArray, List.set_cons_zero, List.set_cons_succ]
    refine fld_taken (v := ?_) rfl (by rfl) (fun w' hw' => ?_) ?_
    rotate_left
    · have hc := hw'.1.cell 0 rfl
      go_simp <;> with_reducible rfl
    simp only [Act.put, List.getElem_toArray, List.getElem_cons_succ, List.getElem_cons_zero, List.setIfInBounds_toArray, List.set_cons_zero, List.set_cons_succ]
    refine fld_taken_nil ?_
    refine fld_two (i := 5) (j := 6) (by kernel_rfl) rfl rfl (by rfl) (by rfl) (fun K hK => ?_) (fun K hK => ?_)
    · go_simp
      refine (HR.out g Wc st.rd).mono ?_
      rintro e Wn ⟨A, n, c, D, m, d, rfl, ho, hr, hk⟩
      have hw7 : b5 < Wc.heap.size := st.vk.lt
      have st := st.read hr hk
      have ho := ho.down (B := g + 1) (by have := st.hg; omega)
      obtain ⟨Wc, hWc⟩ : ∃ Wc, Wc = Wn := ⟨_, rfl⟩
      subst hWc
      clear hr
      go_wp2_with fail
      have hcur := And.intro st.vb st.vk
      refine hK.out _ _ hcur ?_
      clear hK K
      clear hk
      refine fld_alone (i := 6) (by kernel_rfl) rfl (by rfl) (fun K hK => ?_)
      go_wp2_with fail
      obtain ⟨x, hxx⟩ : ∃ x, x = Wc.heap.size := ⟨_, rfl⟩
      obtain ⟨Wn, hWn⟩ : ∃ Wn, Wn = Wc.alloc (.cells #[.int .i8 0, .int .i64 0, .int .i64 0, .int .i64 0, .bool false, .slice none 0 0, .bool false, .int .i64 0, .int .i64 0, .int .i64 0, .int .i64 0, .int .i64 0, .string ⟨#[]⟩, .string ⟨#[]⟩, .int .i64 0, .int .i64 0, .int .i64 0, .slice none 0 0] 32) := ⟨_, rfl⟩
      have v7 := Var.new Wc #[.int .i8 0, .int .i64 0, .int .i64 0, .int .i64 0, .bool false, .slice none 0 0, .bool false, .int .i64 0, .int .i64 0, .int .i64 0, .int .i64 0, .int .i64 0, .string ⟨#[]⟩, .string ⟨#[]⟩, .int .i64 0, .int .i64 0, .int .i64 0, .slice none 0 0] 32
      have hx7 := st.vk.lt
      have bn := below_new (w := Wc) (.cells #[.int .i8 0, .int .i64 0, .int .i64 0, .int .i64 0, .bool false, .slice none 0 0, .bool false, .int .i64 0, .int .i64 0, .int .i64 0, .int .i64 0, .int .i64 0, .string ⟨#[]⟩, .string ⟨#[]⟩, .int .i64 0, .int .i64 0, .int .i64 0, .slice none 0 0] 32)
      have st := st.next bn
      have ho := ho.next bn
      rw [← hWn, ← hxx] at v7
      rw [← hWn] at st ho
      rw [← hxx] at hx7
      rw [← hWn, ← hxx]
      clear hWn hxx bn
      obtain ⟨Wc, hWc⟩ : ∃ Wc, Wc = Wn := ⟨_, rfl⟩
      subst hWc
      have hcur := And.intro st.vb st.vk
      refine hK.out _ _ hcur ?_
      clear hK K
      refine fld_alone (i := 7) (by kernel_rfl) rfl (by rfl) (fun K hK => ?_)
      refine wp_store_var (.tmp 7) (.tmp 20) rfl rfl rfl v7 rfl (by kernel_rfl) (by simp [Value.oneCell', evals]) ?_
      intro Wn v9 o9
      have ho := ho.low v7 o9
      have st := st.only o9 hx7
      clear v7 o9
      have hcur := And.intro st.vb st.vk
      refine hK.out _ _ hcur ?_
      clear hK K
      refine wpAnyH_done (by kernel_rfl) ?_ _
      go_wp2_with fail
      go_meet
      exact ⟨x, A, n, c, D, m, d, rfl, hx7, v9, ho, st⟩

    · go_wp2_with fail
      obtain ⟨x, hxx⟩ : ∃ x, x = Wc.heap.size := ⟨_, rfl⟩
      obtain ⟨Wn, hWn⟩ : ∃ Wn, Wn = Wc.alloc (.cells #[.int .i8 0, .int .i64 0, .int .i64 0, .int .i64 0, .bool false, .slice none 0 0, .bool false, .int .i64 0, .int .i64 0, .int .i64 0, .int .i64 0, .int .i64 0, .string ⟨#[]⟩, .string ⟨#[]⟩, .int .i64 0, .int .i64 0, .int .i64 0, .slice none 0 0] 32) := ⟨_, rfl⟩
      have v7 := Var.new Wc #[.int .i8 0, .int .i64 0, .int .i64 0, .int .i64 0, .bool false, .slice none 0 0, .bool false, .int .i64 0, .int .i64 0, .int .i64 0, .int .i64 0, .int .i64 0, .string ⟨#[]⟩, .string ⟨#[]⟩, .int .i64 0, .int .i64 0, .int .i64 0, .slice none 0 0] 32
      have hx7 := st.vk.lt
      have bn := below_new (w := Wc) (.cells #[.int .i8 0, .int .i64 0, .int .i64 0, .int .i64 0, .bool false, .slice none 0 0, .bool false, .int .i64 0, .int .i64 0, .int .i64 0, .int .i64 0, .int .i64 0, .string ⟨#[]⟩, .string ⟨#[]⟩, .int .i64 0, .int .i64 0, .int .i64 0, .slice none 0 0] 32)
      have st := st.next bn
      rw [← hWn, ← hxx] at v7
      rw [← hWn] at st
      rw [← hxx] at hx7
      rw [← hWn, ← hxx]
      clear hWn hxx bn
      obtain ⟨Wc, hWc⟩ : ∃ Wc, Wc = Wn := ⟨_, rfl⟩
      subst hWc
      have hcur := And.intro st.vb st.vk
      refine hK.out _ _ hcur ?_
      clear hK K
      refine fld_alone (i := 5) (by kernel_rfl) rfl (by rfl) (fun K hK => ?_)
      go_simp
      refine (HR.out g Wc st.rd).mono ?_
      rintro e Wn ⟨A, n, c, D, m, d, rfl, ho, hr, hk⟩
      have hw7 : b5 < Wc.heap.size := st.vk.lt
      have st := st.read hr hk
      have ho := ho.down (B := g + 1) (by have := st.hg; omega)
      have v7 := v7.kept hk (by have := st.hg; simp; omega)
      obtain ⟨Wc, hWc⟩ : ∃ Wc, Wc = Wn := ⟨_, rfl⟩
      subst hWc
      clear hr
      go_wp2_with fail
      have hcur := And.intro st.vb st.vk
      refine hK.out _ _ hcur ?_
      clear hK K
      clear hk
      refine fld_alone (i := 7) (by kernel_rfl) rfl (by rfl) (fun K hK => ?_)
      refine wp_store_var (.tmp 7) (.tmp 20) rfl rfl rfl v7 rfl (by kernel_rfl) (by simp [Value.oneCell', evals]) ?_
      intro Wn v9 o9
      have ho := ho.low v7 o9
      have st := st.only o9 hx7
      clear v7 o9
      have hcur := And.intro st.vb st.vk
      refine hK.out _ _ hcur ?_
      clear hK K
      refine wpAnyH_done (by kernel_rfl) ?_ _
      go_wp2_with fail
      go_meet
      exact ⟨x, A, n, c, D, m, d, rfl, hx7, v9, ho, st⟩
  case rest =>
    obtain ⟨x7, A, n, c, D, m, d, rfl, hx7, v7, ho, st⟩ := hcut
    simp only [evals] at v7
    have hcc := v7.cell 0 rfl
    have hf := v7.free
    have hcl := v7.lt
    go_upto_region 6 with fail
    have v8 := v7.set 0 (.int .i8 4)
    simp only [List.setIfInBounds_toArray, List.set_cons_zero] at v8
    refine wp_at (C := fun W => Var W x7 32 (evals ⟨4, yb, yes, nx, off, yr, yp⟩ A n c D m d) ∧ EOwn (g + 1) W ⟨4, yb, yes, nx, off, yr, yp⟩ A n c D m d ∧ R1 w W g b4 b5 s p bad) ⟨v8, ho.low v7 (Only.setCell _ _ _ _), st.only (Only.setCell _ _ _ _) hx7⟩ ?_
    clear v7 v8 hcc hf hcl ho st
    rintro W6 ⟨v6, hx6, st⟩
    simp only [evals] at v6
    have hcc := st.vb.cell 0 rfl
    have hcl := st.vb.lt
    obtain ⟨er0, her⟩ := endIs_of s p bad
    have HER := Lib.hid her
    clear her
    go_wp2_with fail
    refine (end_all g s p bad er0 W6 HER.out st.rd).mono ?_
    rintro e W7 ⟨rfl, nq, rfl⟩
    have bq : Below W6.heap.size W6 (W6.drewN nq) := (Below.refl _ _).drewN' nq
    have st := st.next bq
    have hx7 := hx6.next bq
    have v7 := v6.drewN nq
    clear hx6 v6 hcc hcl
    generalize W6.drewN nq = W7 at bq st hx7 v7 ⊢
    rcases HER.out with ⟨hbad, hps, rfl⟩ | ⟨hbp, rfl⟩
    · have y0 : ((0 : Int) != 0) = false := by decide
      have HBP : Hid (bad = false ∧ p = s.size) := ⟨hbad, hps⟩
      clear hbad hps HER
      obtain ⟨q, hq⟩ := iff_of (En.Good ⟨4, yb, yes, nx, off, yr, yp⟩)
      have HQ := Lib.hid hq
      clear hq
      go_wp2_with (refine wpList_load_want (by rfl) _ rfl Tryz.underlying32 rfl rfl v7 (by kernel_rfl) ?_)
      refine (emay_any ⟨4, yb, yes, nx, off, yr, yp⟩ A D n c m d W7.heap.size q W7 hx7.ein (Nat.le_refl _) HQ.out).mono ?_
      rintro e W8 ⟨rfl, h8⟩
      have st := st.next h8
      have v8 := v7.below h8 v7.lt
      have hx8 := hx7.next h8
      clear v7 hx7 bq
      cases q with
      | true =>
        obtain ⟨rfl, rfl⟩ : er = 0 ∧ x = ⟨4, yb, yes, nx, off, yr, yp⟩ := by
          rcases HT.out with ⟨_, _, _, h, h'⟩ | ⟨h | h | h, _⟩
          · exact ⟨h, h'⟩
          · rw [HBP.out.1] at h; cases h
          · exact absurd HBP.out.2 h
          · exact absurd (HQ.out.1 (by first | rfl | trivial)) h
        clear HT HQ HR HBP
        go_wp2_with (first | refine wpList_load_var rfl _ rfl Tryz.underlying32 rfl rfl v8 (by kernel_rfl) ?_ | (refine wpList_store_var rfl _ _ rfl rfl rfl st.vr rfl (by kernel_rfl) (by simp [Value.oneCell']) ?_; intro W9 v9 o9))
        refine bodyPost_ret (results_var_tmp rfl rfl rfl v9 Tryz.underlying32 rfl (by kernel_rfl)) rfl ?_
        exact ⟨A, n, c, D, m, d, rfl, (hx8.only o9 (by omega)).down (by omega), Only.below st.below o9 (Nat.le_refl _)⟩
      | false =>
        obtain ⟨rfl, rfl⟩ : er = 70 ∧ x = noEn := by
          rcases HT.out with ⟨_, _, h, _⟩ | ⟨_, h, h'⟩
          · have := HQ.out.2 h; cases this
          · exact ⟨h, h'⟩
        clear HT HQ HR HBP hx8 v8
        go_wp2_with (refine wpList_store_var rfl _ _ rfl rfl rfl st.vr rfl (by kernel_rfl) (by simp [Value.oneCell']) ?_; intro W9 v9 o9)
        refine bodyPost_ret (results_var_tmp rfl rfl rfl v9 Tryz.underlying32 rfl (by kernel_rfl)) rfl ?_
        exact ⟨none, 0, 0, none, 0, 0, rfl, noEn_own _ _, Only.below st.below o9 (Nat.le_refl _)⟩
    · have y0 : ((70 : Int) != 0) = true := by decide
      obtain ⟨rfl, rfl⟩ : er = 70 ∧ x = noEn := by
        rcases HT.out with ⟨h1, h2, _⟩ | ⟨_, h, h'⟩
        · rcases hbp with h | h
          · rw [h1] at h; cases h
          · exact absurd h2 h
        · exact ⟨h, h'⟩
      clear HT HR hx7 v7 hbp HER bq
      go_wp2_with (refine wpList_store_var rfl _ _ rfl rfl rfl st.vr rfl (by kernel_rfl) (by simp [Value.oneCell']) ?_; intro W9 v9 o9)
      refine bodyPost_ret (results_var_tmp rfl rfl rfl v9 Tryz.underlying32 rfl (by kernel_rfl)) rfl ?_
      exact ⟨none, 0, 0, none, 0, 0, rfl, noEn_own _ _, Only.below st.below o9 (Nat.le_refl _)⟩

set_option maxRecDepth 100000 in
set_option maxHeartbeats 2000000 in
theorem eread_row (s : ByteArray) (x : En) (er : Int) (p0 p : Nat) (b0 bad : Bool) (yb : Bt) (yes : Bool) (nx off : Int) (yr : Rw) (yp : Pd) (w : World) (hx : s.size ≤ 1000000) (h0 : NumIs s 0 false 0 6 5 p0 b0) (hR : ReadsK s p0 b0 ⟨5, yb, yes, nx, off, yr, yp⟩ p bad 69) (hT : Told s x er ⟨5, yb, yes, nx, off, yr, yp⟩ p bad) :
    Calls Tryz.prog 18 #[.string s] w (EReadOwn w x er) := by
  have H0 := Lib.hid h0
  have HR := Lib.hid hR
  have HT := Lib.hid hT
  clear h0 hR hT
  obtain ⟨W0, hW0⟩ : ∃ W0, W0 = w.alloc (.cells #[.int .i8 0, .int .i64 0, .int .i64 0, .int .i64 0, .bool false, .slice none 0 0, .bool false, .int .i64 0, .int .i64 0, .int .i64 0, .int .i64 0, .int .i64 0, .string ⟨#[]⟩, .string ⟨#[]⟩, .int .i64 0, .int .i64 0, .int .i64 0, .slice none 0 0] 32) := ⟨_, rfl⟩
  have v0 : Var W0 w.heap.size 32 #[.int .i8 0, .int .i64 0, .int .i64 0, .int .i64 0, .bool false, .slice none 0 0, .bool false, .int .i64 0, .int .i64 0, .int .i64 0, .int .i64 0, .int .i64 0, .string ⟨#[]⟩, .string ⟨#[]⟩, .int .i64 0, .int .i64 0, .int .i64 0, .slice none 0 0] := by rw [hW0]; exact Var.new _ _ _
  have b0' : Below w.heap.size w W0 := by rw [hW0]; exact below_new _
  have HW0 := Lib.hid hW0
  clear hW0
  go_enter Tryz.func18, Tryz.ntmps18
  go_upto_region 1 with fail
  rw [← HW0.out]
  go_wp2_with fail
  refine (new_any s W0).mono ?_
  rintro e W1 ⟨rfl, hr1, h1⟩
  obtain ⟨g, hgg⟩ : ∃ g, g = W0.heap.size := ⟨_, rfl⟩
  have hgw : w.heap.size < g := by rw [hgg]; exact v0.lt
  have v1 := v0.below h1 v0.lt
  have bb1 := b0'.trans (h1.mono b0'.size)
  rw [← hgg] at hr1 ⊢
  clear hgg v0 b0' h1 HW0
  have hg1 : g < W1.heap.size := Var.lt hr1
  go_upto_region 2 with fail
  obtain ⟨b4, hb4⟩ : ∃ b4, b4 = W1.heap.size := ⟨_, rfl⟩
  refine wp_at (C := fun W => Rd 105 W g s 0 false ∧ Var W b4 89 #[.pointer (some ⟨g, 0, none⟩)] ∧ Var W w.heap.size 32 #[.int .i8 0, .int .i64 0, .int .i64 0, .int .i64 0, .bool false, .slice none 0 0, .bool false, .int .i64 0, .int .i64 0, .int .i64 0, .int .i64 0, .int .i64 0, .string ⟨#[]⟩, .string ⟨#[]⟩, .int .i64 0, .int .i64 0, .int .i64 0, .slice none 0 0] ∧ Below w.heap.size w W) ⟨Var.alloc hr1 _, by rw [hb4]; exact Var.new _ _ _, v1.alloc _, bb1.alloc bb1.size _⟩ ?_
  rw [← hb4] at hg1 ⊢
  clear hr1 v1 bb1 hb4
  rintro W2 ⟨hr2, vb2, v2, bb2⟩
  go_wp2_with fail
  refine (kinds_any W2).mono ?_
  rintro e W3 ⟨rfl, h3⟩
  obtain ⟨b5, hb5⟩ : ∃ b5, b5 = W3.heap.size := ⟨_, rfl⟩
  have hb45 : b4 < b5 := by rw [hb5]; exact Nat.lt_of_lt_of_le vb2.lt h3.size
  have vb3 := vb2.below h3 vb2.lt
  have hr3 := Var.below hr2 h3 (Var.lt hr2)
  have v3 := v2.below h3 v2.lt
  have bb3 := bb2.trans (h3.mono bb2.size)
  clear hr2 vb2 v2 bb2 h3
  go_wp2_with (refine wpList_store_var rfl _ _ rfl rfl rfl (Var.new W3 #[.nilFunc, .nilFunc, .nilFunc, .nilFunc, .nilFunc, .nilFunc, .nilFunc, .nilFunc, .nilFunc, .nilFunc, .nilFunc, .nilFunc, .nilFunc, .nilFunc] 66) rfl (by kernel_rfl) (by simp [Value.oneCell', kindsV]) ?_; intro W4 v4 o4; have st : R1 w W4 g b4 b5 s 0 false := ⟨o4.var (Var.alloc hr3 _) (by omega), o4.var (vb3.alloc _) (by omega), by rw [hb5]; exact v4, o4.var (v3.alloc _) (by omega), Only.below (bb3.alloc bb3.size _) o4 (by have := bb3.size; omega), ⟨hgw, hg1, hb45⟩⟩; clear hr3 vb3 v3 bb3 v4 o4; have hcc := st.vb.cell 0 rfl; have hcl := st.vb.lt)
  rw [← hb5]
  clear hb5
  refine (number_all g s 0 false 0 6 5 p0 b0 W4 H0.out st.rd hx (Nat.zero_le _)).mono ?_
  rintro e W5 ⟨rfl, hr5, k5⟩
  have st := st.read hr5 k5
  clear hcc hcl hr5 k5 H0
  go_upto_region 4 with fail
  go_cut [7] (fun s7 wx => ∃ x7 A n c D m d, s7 = .pointer (some ⟨x7, 0, none⟩) ∧ b5 < x7 ∧ Var wx x7 32 (evals ⟨0, yb, yes, nx, off, yr, yp⟩ A n c D m d) ∧ EOwn (g + 1) wx ⟨5, yb, yes, nx, off, yr, yp⟩ A n c D m d ∧ R1 w wx g b4 b5 s p bad)
  case first =>
    have st := st.next (w' := W5.drew) ((Below.refl _ _).drew)
    have hcur := And.intro st.vb st.vk
    refine wp_region_held_drew (S := fun w' => Var w' b4 89 #[.pointer (some ⟨g, 0, none⟩)] ∧ Var w' b5 66 kindsV) (by kernel_rfl) hcur (fun hHeld => ?_)
    clear hHeld
    generalize W5.drew = Wc at st hcur ⊢
    refine fld_takes [0, 1, 2, 3, 4] _ 3 _ _ _ (by kernel_rfl) (fun _ d _ _ _ h => by cases d <;> exact h) (by rfl) (by kernel_rfl) (by assumption) ?_
    refine fld_taken (v := ?_) rfl (by rfl) (fun w' hw' => ?_) ?_
    rotate_left
    · (go_simp <;> with_reducible rfl)
    simp only [Act.put, List.getElem_toArray, List.getElem_cons_zero, List.setIfInBounds_toArray, List.set_cons_zero, List.set_cons_succ]
    refine fld_taken (v := ?_) rfl (by rfl) (fun w' hw' => ?_) ?_
    rotate_left
    · (go_simp <;> with_reducible rfl)
    simp only [Act.put, List.getElem_toArray, List.getElem_cons_succ, List.getElem_cons_zero, List.setIfInBounds_toArray, List.set_cons_zero, List.set_cons_succ]
    refine fld_taken (v := ?_) rfl (by rfl) (fun w' hw' => ?_) ?_
    rotate_left
    · (go_simp <;> with_reducible rfl)
    simp only [Act.put, List.getElem_toArray, List.getElem_cons_succ, List.getElem_cons_zero, List.setIfInBounds_toArray, List.set_cons_zero, List.set_cons_succ]
    refine fld_taken (v := ?_) rfl (by rfl) (fun w' hw' => ?_) ?_
    rotate_left
    · have hc := hw'.2.cell 11 rfl
      go_simp <;> with_reducible rfl
    simp only [Act.put, List.getElem_toArray, List.getElem_cons_succ, List.getElem_cons_zero, List.setIfInBounds_toArray, List.set_cons_zero, List.set_cons_succ]
    refine fld_taken (v := ?_) rfl (by rfl) (fun w' hw' => ?_) ?_
    rotate_left
    · have hc := hw'.1.cell 0 rfl
      go_simp <;> with_reducible rfl
    simp only [Act.put, List.getElem_toArray, List.getElem_cons_succ, List.getElem_cons_zero, List.setIfInBounds_toArray, List.set_cons_zero, List.set_cons_succ]
    refine fld_taken_nil ?_
    refine fld_two (i := 5) (j := 6) (by kernel_rfl) rfl rfl (by rfl) (by rfl) (fun K hK => ?_) (fun K hK => ?_)
    · go_simp
      refine (HR.out g Wc st.rd).mono ?_
      rintro e Wn ⟨A, n, c, D, m, d, rfl, ho, hr, hk⟩
      have hw7 : b5 < Wc.heap.size := st.vk.lt
      have st := st.read hr hk
      have ho := ho.down (B := g + 1) (by have := st.hg; omega)
      obtain ⟨Wc, hWc⟩ : ∃ Wc, Wc = Wn := ⟨_, rfl⟩
      subst hWc
      clear hr
      go_wp2_with fail
      have hcur := And.intro st.vb st.vk
      refine hK.out _ _ hcur ?_
      clear hK K
      clear hk
      refine fld_alone (i := 6) (by kernel_rfl) rfl (by rfl) (fun K hK => ?_)
      go_wp2_with fail
      obtain ⟨x, hxx⟩ : ∃ x, x = Wc.heap.size := ⟨_, rfl⟩
      obtain ⟨Wn, hWn⟩ : ∃ Wn, Wn = Wc.alloc (.cells #[.int .i8 0, .int .i64 0, .int .i64 0, .int .i64 0, .bool false, .slice none 0 0, .bool false, .int .i64 0, .int .i64 0, .int .i64 0, .int .i64 0, .int .i64 0, .string ⟨#[]⟩, .string ⟨#[]⟩, .int .i64 0, .int .i64 0, .int .i64 0, .slice none 0 0] 32) := ⟨_, rfl⟩
      have v7 := Var.new Wc #[.int .i8 0, .int .i64 0, .int .i64 0, .int .i64 0, .bool false, .slice none 0 0, .bool false, .int .i64 0, .int .i64 0, .int .i64 0, .int .i64 0, .int .i64 0, .string ⟨#[]⟩, .string ⟨#[]⟩, .int .i64 0, .int .i64 0, .int .i64 0, .slice none 0 0] 32
      have hx7 := st.vk.lt
      have bn := below_new (w := Wc) (.cells #[.int .i8 0, .int .i64 0, .int .i64 0, .int .i64 0, .bool false, .slice none 0 0, .bool false, .int .i64 0, .int .i64 0, .int .i64 0, .int .i64 0, .int .i64 0, .string ⟨#[]⟩, .string ⟨#[]⟩, .int .i64 0, .int .i64 0, .int .i64 0, .slice none 0 0] 32)
      have st := st.next bn
      have ho := ho.next bn
      rw [← hWn, ← hxx] at v7
      rw [← hWn] at st ho
      rw [← hxx] at hx7
      rw [← hWn, ← hxx]
      clear hWn hxx bn
      obtain ⟨Wc, hWc⟩ : ∃ Wc, Wc = Wn := ⟨_, rfl⟩
      subst hWc
      have hcur := And.intro st.vb st.vk
      refine hK.out _ _ hcur ?_
      clear hK K
      refine fld_alone (i := 7) (by kernel_rfl) rfl (by rfl) (fun K hK => ?_)
      refine wp_store_var (.tmp 7) (.tmp 20) rfl rfl rfl v7 rfl (by kernel_rfl) (by simp [Value.oneCell', evals]) ?_
      intro Wn v9 o9
      have ho := ho.low v7 o9
      have st := st.only o9 hx7
      clear v7 o9
      have hcur := And.intro st.vb st.vk
      refine hK.out _ _ hcur ?_
      clear hK K
      refine wpAnyH_done (by kernel_rfl) ?_ _
      go_wp2_with fail
      go_meet
      exact ⟨x, A, n, c, D, m, d, rfl, hx7, v9, ho, st⟩

    · go_wp2_with fail
      obtain ⟨x, hxx⟩ : ∃ x, x = Wc.heap.size := ⟨_, rfl⟩
      obtain ⟨Wn, hWn⟩ : ∃ Wn, Wn = Wc.alloc (.cells #[.int .i8 0, .int .i64 0, .int .i64 0, .int .i64 0, .bool false, .slice none 0 0, .bool false, .int .i64 0, .int .i64 0, .int .i64 0, .int .i64 0, .int .i64 0, .string ⟨#[]⟩, .string ⟨#[]⟩, .int .i64 0, .int .i64 0, .int .i64 0, .slice none 0 0] 32) := ⟨_, rfl⟩
      have v7 := Var.new Wc #[.int .i8 0, .int .i64 0, .int .i64 0, .int .i64 0, .bool false, .slice none 0 0, .bool false, .int .i64 0, .int .i64 0, .int .i64 0, .int .i64 0, .int .i64 0, .string ⟨#[]⟩, .string ⟨#[]⟩, .int .i64 0, .int .i64 0, .int .i64 0, .slice none 0 0] 32
      have hx7 := st.vk.lt
      have bn := below_new (w := Wc) (.cells #[.int .i8 0, .int .i64 0, .int .i64 0, .int .i64 0, .bool false, .slice none 0 0, .bool false, .int .i64 0, .int .i64 0, .int .i64 0, .int .i64 0, .int .i64 0, .string ⟨#[]⟩, .string ⟨#[]⟩, .int .i64 0, .int .i64 0, .int .i64 0, .slice none 0 0] 32)
      have st := st.next bn
      rw [← hWn, ← hxx] at v7
      rw [← hWn] at st
      rw [← hxx] at hx7
      rw [← hWn, ← hxx]
      clear hWn hxx bn
      obtain ⟨Wc, hWc⟩ : ∃ Wc, Wc = Wn := ⟨_, rfl⟩
      subst hWc
      have hcur := And.intro st.vb st.vk
      refine hK.out _ _ hcur ?_
      clear hK K
      refine fld_alone (i := 5) (by kernel_rfl) rfl (by rfl) (fun K hK => ?_)
      go_simp
      refine (HR.out g Wc st.rd).mono ?_
      rintro e Wn ⟨A, n, c, D, m, d, rfl, ho, hr, hk⟩
      have hw7 : b5 < Wc.heap.size := st.vk.lt
      have st := st.read hr hk
      have ho := ho.down (B := g + 1) (by have := st.hg; omega)
      have v7 := v7.kept hk (by have := st.hg; simp; omega)
      obtain ⟨Wc, hWc⟩ : ∃ Wc, Wc = Wn := ⟨_, rfl⟩
      subst hWc
      clear hr
      go_wp2_with fail
      have hcur := And.intro st.vb st.vk
      refine hK.out _ _ hcur ?_
      clear hK K
      clear hk
      refine fld_alone (i := 7) (by kernel_rfl) rfl (by rfl) (fun K hK => ?_)
      refine wp_store_var (.tmp 7) (.tmp 20) rfl rfl rfl v7 rfl (by kernel_rfl) (by simp [Value.oneCell', evals]) ?_
      intro Wn v9 o9
      have ho := ho.low v7 o9
      have st := st.only o9 hx7
      clear v7 o9
      have hcur := And.intro st.vb st.vk
      refine hK.out _ _ hcur ?_
      clear hK K
      refine wpAnyH_done (by kernel_rfl) ?_ _
      go_wp2_with fail
      go_meet
      exact ⟨x, A, n, c, D, m, d, rfl, hx7, v9, ho, st⟩
  case rest =>
    obtain ⟨x7, A, n, c, D, m, d, rfl, hx7, v7, ho, st⟩ := hcut
    simp only [evals] at v7
    have hcc := v7.cell 0 rfl
    have hf := v7.free
    have hcl := v7.lt
    go_upto_region 6 with fail
    have v8 := v7.set 0 (.int .i8 5)
    simp only [List.setIfInBounds_toArray, List.set_cons_zero] at v8
    refine wp_at (C := fun W => Var W x7 32 (evals ⟨5, yb, yes, nx, off, yr, yp⟩ A n c D m d) ∧ EOwn (g + 1) W ⟨5, yb, yes, nx, off, yr, yp⟩ A n c D m d ∧ R1 w W g b4 b5 s p bad) ⟨v8, ho.low v7 (Only.setCell _ _ _ _), st.only (Only.setCell _ _ _ _) hx7⟩ ?_
    clear v7 v8 hcc hf hcl ho st
    rintro W6 ⟨v6, hx6, st⟩
    simp only [evals] at v6
    have hcc := st.vb.cell 0 rfl
    have hcl := st.vb.lt
    obtain ⟨er0, her⟩ := endIs_of s p bad
    have HER := Lib.hid her
    clear her
    go_wp2_with fail
    refine (end_all g s p bad er0 W6 HER.out st.rd).mono ?_
    rintro e W7 ⟨rfl, nq, rfl⟩
    have bq : Below W6.heap.size W6 (W6.drewN nq) := (Below.refl _ _).drewN' nq
    have st := st.next bq
    have hx7 := hx6.next bq
    have v7 := v6.drewN nq
    clear hx6 v6 hcc hcl
    generalize W6.drewN nq = W7 at bq st hx7 v7 ⊢
    rcases HER.out with ⟨hbad, hps, rfl⟩ | ⟨hbp, rfl⟩
    · have y0 : ((0 : Int) != 0) = false := by decide
      have HBP : Hid (bad = false ∧ p = s.size) := ⟨hbad, hps⟩
      clear hbad hps HER
      obtain ⟨q, hq⟩ := iff_of (En.Good ⟨5, yb, yes, nx, off, yr, yp⟩)
      have HQ := Lib.hid hq
      clear hq
      go_wp2_with (refine wpList_load_want (by rfl) _ rfl Tryz.underlying32 rfl rfl v7 (by kernel_rfl) ?_)
      refine (emay_any ⟨5, yb, yes, nx, off, yr, yp⟩ A D n c m d W7.heap.size q W7 hx7.ein (Nat.le_refl _) HQ.out).mono ?_
      rintro e W8 ⟨rfl, h8⟩
      have st := st.next h8
      have v8 := v7.below h8 v7.lt
      have hx8 := hx7.next h8
      clear v7 hx7 bq
      cases q with
      | true =>
        obtain ⟨rfl, rfl⟩ : er = 0 ∧ x = ⟨5, yb, yes, nx, off, yr, yp⟩ := by
          rcases HT.out with ⟨_, _, _, h, h'⟩ | ⟨h | h | h, _⟩
          · exact ⟨h, h'⟩
          · rw [HBP.out.1] at h; cases h
          · exact absurd HBP.out.2 h
          · exact absurd (HQ.out.1 (by first | rfl | trivial)) h
        clear HT HQ HR HBP
        go_wp2_with (first | refine wpList_load_var rfl _ rfl Tryz.underlying32 rfl rfl v8 (by kernel_rfl) ?_ | (refine wpList_store_var rfl _ _ rfl rfl rfl st.vr rfl (by kernel_rfl) (by simp [Value.oneCell']) ?_; intro W9 v9 o9))
        refine bodyPost_ret (results_var_tmp rfl rfl rfl v9 Tryz.underlying32 rfl (by kernel_rfl)) rfl ?_
        exact ⟨A, n, c, D, m, d, rfl, (hx8.only o9 (by omega)).down (by omega), Only.below st.below o9 (Nat.le_refl _)⟩
      | false =>
        obtain ⟨rfl, rfl⟩ : er = 70 ∧ x = noEn := by
          rcases HT.out with ⟨_, _, h, _⟩ | ⟨_, h, h'⟩
          · have := HQ.out.2 h; cases this
          · exact ⟨h, h'⟩
        clear HT HQ HR HBP hx8 v8
        go_wp2_with (refine wpList_store_var rfl _ _ rfl rfl rfl st.vr rfl (by kernel_rfl) (by simp [Value.oneCell']) ?_; intro W9 v9 o9)
        refine bodyPost_ret (results_var_tmp rfl rfl rfl v9 Tryz.underlying32 rfl (by kernel_rfl)) rfl ?_
        exact ⟨none, 0, 0, none, 0, 0, rfl, noEn_own _ _, Only.below st.below o9 (Nat.le_refl _)⟩
    · have y0 : ((70 : Int) != 0) = true := by decide
      obtain ⟨rfl, rfl⟩ : er = 70 ∧ x = noEn := by
        rcases HT.out with ⟨h1, h2, _⟩ | ⟨_, h, h'⟩
        · rcases hbp with h | h
          · rw [h1] at h; cases h
          · exact absurd h2 h
        · exact ⟨h, h'⟩
      clear HT HR hx7 v7 hbp HER bq
      go_wp2_with (refine wpList_store_var rfl _ _ rfl rfl rfl st.vr rfl (by kernel_rfl) (by simp [Value.oneCell']) ?_; intro W9 v9 o9)
      refine bodyPost_ret (results_var_tmp rfl rfl rfl v9 Tryz.underlying32 rfl (by kernel_rfl)) rfl ?_
      exact ⟨none, 0, 0, none, 0, 0, rfl, noEn_own _ _, Only.below st.below o9 (Nat.le_refl _)⟩

set_option maxRecDepth 100000 in
set_option maxHeartbeats 2000000 in
theorem eread_state (s : ByteArray) (x : En) (er : Int) (p0 p : Nat) (b0 bad : Bool) (yb : Bt) (yes : Bool) (nx off : Int) (yr : Rw) (yp : Pd) (w : World) (hx : s.size ≤ 1000000) (h0 : NumIs s 0 false 0 6 6 p0 b0) (hR : ReadsK s p0 b0 ⟨6, yb, yes, nx, off, yr, yp⟩ p bad 71) (hT : Told s x er ⟨6, yb, yes, nx, off, yr, yp⟩ p bad) :
    Calls Tryz.prog 18 #[.string s] w (EReadOwn w x er) := by
  have H0 := Lib.hid h0
  have HR := Lib.hid hR
  have HT := Lib.hid hT
  clear h0 hR hT
  obtain ⟨W0, hW0⟩ : ∃ W0, W0 = w.alloc (.cells #[.int .i8 0, .int .i64 0, .int .i64 0, .int .i64 0, .bool false, .slice none 0 0, .bool false, .int .i64 0, .int .i64 0, .int .i64 0, .int .i64 0, .int .i64 0, .string ⟨#[]⟩, .string ⟨#[]⟩, .int .i64 0, .int .i64 0, .int .i64 0, .slice none 0 0] 32) := ⟨_, rfl⟩
  have v0 : Var W0 w.heap.size 32 #[.int .i8 0, .int .i64 0, .int .i64 0, .int .i64 0, .bool false, .slice none 0 0, .bool false, .int .i64 0, .int .i64 0, .int .i64 0, .int .i64 0, .int .i64 0, .string ⟨#[]⟩, .string ⟨#[]⟩, .int .i64 0, .int .i64 0, .int .i64 0, .slice none 0 0] := by rw [hW0]; exact Var.new _ _ _
  have b0' : Below w.heap.size w W0 := by rw [hW0]; exact below_new _
  have HW0 := Lib.hid hW0
  clear hW0
  go_enter Tryz.func18, Tryz.ntmps18
  go_upto_region 1 with fail
  rw [← HW0.out]
  go_wp2_with fail
  refine (new_any s W0).mono ?_
  rintro e W1 ⟨rfl, hr1, h1⟩
  obtain ⟨g, hgg⟩ : ∃ g, g = W0.heap.size := ⟨_, rfl⟩
  have hgw : w.heap.size < g := by rw [hgg]; exact v0.lt
  have v1 := v0.below h1 v0.lt
  have bb1 := b0'.trans (h1.mono b0'.size)
  rw [← hgg] at hr1 ⊢
  clear hgg v0 b0' h1 HW0
  have hg1 : g < W1.heap.size := Var.lt hr1
  go_upto_region 2 with fail
  obtain ⟨b4, hb4⟩ : ∃ b4, b4 = W1.heap.size := ⟨_, rfl⟩
  refine wp_at (C := fun W => Rd 105 W g s 0 false ∧ Var W b4 89 #[.pointer (some ⟨g, 0, none⟩)] ∧ Var W w.heap.size 32 #[.int .i8 0, .int .i64 0, .int .i64 0, .int .i64 0, .bool false, .slice none 0 0, .bool false, .int .i64 0, .int .i64 0, .int .i64 0, .int .i64 0, .int .i64 0, .string ⟨#[]⟩, .string ⟨#[]⟩, .int .i64 0, .int .i64 0, .int .i64 0, .slice none 0 0] ∧ Below w.heap.size w W) ⟨Var.alloc hr1 _, by rw [hb4]; exact Var.new _ _ _, v1.alloc _, bb1.alloc bb1.size _⟩ ?_
  rw [← hb4] at hg1 ⊢
  clear hr1 v1 bb1 hb4
  rintro W2 ⟨hr2, vb2, v2, bb2⟩
  go_wp2_with fail
  refine (kinds_any W2).mono ?_
  rintro e W3 ⟨rfl, h3⟩
  obtain ⟨b5, hb5⟩ : ∃ b5, b5 = W3.heap.size := ⟨_, rfl⟩
  have hb45 : b4 < b5 := by rw [hb5]; exact Nat.lt_of_lt_of_le vb2.lt h3.size
  have vb3 := vb2.below h3 vb2.lt
  have hr3 := Var.below hr2 h3 (Var.lt hr2)
  have v3 := v2.below h3 v2.lt
  have bb3 := bb2.trans (h3.mono bb2.size)
  clear hr2 vb2 v2 bb2 h3
  go_wp2_with (refine wpList_store_var rfl _ _ rfl rfl rfl (Var.new W3 #[.nilFunc, .nilFunc, .nilFunc, .nilFunc, .nilFunc, .nilFunc, .nilFunc, .nilFunc, .nilFunc, .nilFunc, .nilFunc, .nilFunc, .nilFunc, .nilFunc] 66) rfl (by kernel_rfl) (by simp [Value.oneCell', kindsV]) ?_; intro W4 v4 o4; have st : R1 w W4 g b4 b5 s 0 false := ⟨o4.var (Var.alloc hr3 _) (by omega), o4.var (vb3.alloc _) (by omega), by rw [hb5]; exact v4, o4.var (v3.alloc _) (by omega), Only.below (bb3.alloc bb3.size _) o4 (by have := bb3.size; omega), ⟨hgw, hg1, hb45⟩⟩; clear hr3 vb3 v3 bb3 v4 o4; have hcc := st.vb.cell 0 rfl; have hcl := st.vb.lt)
  rw [← hb5]
  clear hb5
  refine (number_all g s 0 false 0 6 6 p0 b0 W4 H0.out st.rd hx (Nat.zero_le _)).mono ?_
  rintro e W5 ⟨rfl, hr5, k5⟩
  have st := st.read hr5 k5
  clear hcc hcl hr5 k5 H0
  go_upto_region 4 with fail
  go_cut [7] (fun s7 wx => ∃ x7 A n c D m d, s7 = .pointer (some ⟨x7, 0, none⟩) ∧ b5 < x7 ∧ Var wx x7 32 (evals ⟨0, yb, yes, nx, off, yr, yp⟩ A n c D m d) ∧ EOwn (g + 1) wx ⟨6, yb, yes, nx, off, yr, yp⟩ A n c D m d ∧ R1 w wx g b4 b5 s p bad)
  case first =>
    have st := st.next (w' := W5.drew) ((Below.refl _ _).drew)
    have hcur := And.intro st.vb st.vk
    refine wp_region_held_drew (S := fun w' => Var w' b4 89 #[.pointer (some ⟨g, 0, none⟩)] ∧ Var w' b5 66 kindsV) (by kernel_rfl) hcur (fun hHeld => ?_)
    clear hHeld
    generalize W5.drew = Wc at st hcur ⊢
    refine fld_takes [0, 1, 2, 3, 4] _ 3 _ _ _ (by kernel_rfl) (fun _ d _ _ _ h => by cases d <;> exact h) (by rfl) (by kernel_rfl) (by assumption) ?_
    refine fld_taken (v := ?_) rfl (by rfl) (fun w' hw' => ?_) ?_
    rotate_left
    · (go_simp <;> with_reducible rfl)
    simp only [Act.put, List.getElem_toArray, List.getElem_cons_zero, List.setIfInBounds_toArray, List.set_cons_zero, List.set_cons_succ]
    refine fld_taken (v := ?_) rfl (by rfl) (fun w' hw' => ?_) ?_
    rotate_left
    · (go_simp <;> with_reducible rfl)
    simp only [Act.put, List.getElem_toArray, List.getElem_cons_succ, List.getElem_cons_zero, List.setIfInBounds_toArray, List.set_cons_zero, List.set_cons_succ]
    refine fld_taken (v := ?_) rfl (by rfl) (fun w' hw' => ?_) ?_
    rotate_left
    · (go_simp <;> with_reducible rfl)
    simp only [Act.put, List.getElem_toArray, List.getElem_cons_succ, List.getElem_cons_zero, List.setIfInBounds_toArray, List.set_cons_zero, List.set_cons_succ]
    refine fld_taken (v := ?_) rfl (by rfl) (fun w' hw' => ?_) ?_
    rotate_left
    · have hc := hw'.2.cell 13 rfl
      go_simp <;> with_reducible rfl
    simp only [Act.put, List.getElem_toArray, List.getElem_cons_succ, List.getElem_cons_zero, List.setIfInBounds_toArray, List.set_cons_zero, List.set_cons_succ]
    refine fld_taken (v := ?_) rfl (by rfl) (fun w' hw' => ?_) ?_
    rotate_left
    · have hc := hw'.1.cell 0 rfl
      go_simp <;> with_reducible rfl
    simp only [Act.put, List.getElem_toArray, List.getElem_cons_succ, List.getElem_cons_zero, List.setIfInBounds_toArray, List.set_cons_zero, List.set_cons_succ]
    refine fld_taken_nil ?_
    refine fld_two (i := 5) (j := 6) (by kernel_rfl) rfl rfl (by rfl) (by rfl) (fun K hK => ?_) (fun K hK => ?_)
    · go_simp
      refine (HR.out g Wc st.rd).mono ?_
      rintro e Wn ⟨A, n, c, D, m, d, rfl, ho, hr, hk⟩
      have hw7 : b5 < Wc.heap.size := st.vk.lt
      have st := st.read hr hk
      have ho := ho.down (B := g + 1) (by have := st.hg; omega)
      obtain ⟨Wc, hWc⟩ : ∃ Wc, Wc = Wn := ⟨_, rfl⟩
      subst hWc
      clear hr
      go_wp2_with fail
      have hcur := And.intro st.vb st.vk
      refine hK.out _ _ hcur ?_
      clear hK K
      clear hk
      refine fld_alone (i := 6) (by kernel_rfl) rfl (by rfl) (fun K hK => ?_)
      go_wp2_with fail
      obtain ⟨x, hxx⟩ : ∃ x, x = Wc.heap.size := ⟨_, rfl⟩
      obtain ⟨Wn, hWn⟩ : ∃ Wn, Wn = Wc.alloc (.cells #[.int .i8 0, .int .i64 0, .int .i64 0, .int .i64 0, .bool false, .slice none 0 0, .bool false, .int .i64 0, .int .i64 0, .int .i64 0, .int .i64 0, .int .i64 0, .string ⟨#[]⟩, .string ⟨#[]⟩, .int .i64 0, .int .i64 0, .int .i64 0, .slice none 0 0] 32) := ⟨_, rfl⟩
      have v7 := Var.new Wc #[.int .i8 0, .int .i64 0, .int .i64 0, .int .i64 0, .bool false, .slice none 0 0, .bool false, .int .i64 0, .int .i64 0, .int .i64 0, .int .i64 0, .int .i64 0, .string ⟨#[]⟩, .string ⟨#[]⟩, .int .i64 0, .int .i64 0, .int .i64 0, .slice none 0 0] 32
      have hx7 := st.vk.lt
      have bn := below_new (w := Wc) (.cells #[.int .i8 0, .int .i64 0, .int .i64 0, .int .i64 0, .bool false, .slice none 0 0, .bool false, .int .i64 0, .int .i64 0, .int .i64 0, .int .i64 0, .int .i64 0, .string ⟨#[]⟩, .string ⟨#[]⟩, .int .i64 0, .int .i64 0, .int .i64 0, .slice none 0 0] 32)
      have st := st.next bn
      have ho := ho.next bn
      rw [← hWn, ← hxx] at v7
      rw [← hWn] at st ho
      rw [← hxx] at hx7
      rw [← hWn, ← hxx]
      clear hWn hxx bn
      obtain ⟨Wc, hWc⟩ : ∃ Wc, Wc = Wn := ⟨_, rfl⟩
      subst hWc
      have hcur := And.intro st.vb st.vk
      refine hK.out _ _ hcur ?_
      clear hK K
      refine fld_alone (i := 7) (by kernel_rfl) rfl (by rfl) (fun K hK => ?_)
      refine wp_store_var (.tmp 7) (.tmp 20) rfl rfl rfl v7 rfl (by kernel_rfl) (by simp [Value.oneCell', evals]) ?_
      intro Wn v9 o9
      have ho := ho.low v7 o9
      have st := st.only o9 hx7
      clear v7 o9
      have hcur := And.intro st.vb st.vk
      refine hK.out _ _ hcur ?_
      clear hK K
      refine wpAnyH_done (by kernel_rfl) ?_ _
      go_wp2_with fail
      go_meet
      exact ⟨x, A, n, c, D, m, d, rfl, hx7, v9, ho, st⟩

    · go_wp2_with fail
      obtain ⟨x, hxx⟩ : ∃ x, x = Wc.heap.size := ⟨_, rfl⟩
      obtain ⟨Wn, hWn⟩ : ∃ Wn, Wn = Wc.alloc (.cells #[.int .i8 0, .int .i64 0, .int .i64 0, .int .i64 0, .bool false, .slice none 0 0, .bool false, .int .i64 0, .int .i64 0, .int .i64 0, .int .i64 0, .int .i64 0, .string ⟨#[]⟩, .string ⟨#[]⟩, .int .i64 0, .int .i64 0, .int .i64 0, .slice none 0 0] 32) := ⟨_, rfl⟩
      have v7 := Var.new Wc #[.int .i8 0, .int .i64 0, .int .i64 0, .int .i64 0, .bool false, .slice none 0 0, .bool false, .int .i64 0, .int .i64 0, .int .i64 0, .int .i64 0, .int .i64 0, .string ⟨#[]⟩, .string ⟨#[]⟩, .int .i64 0, .int .i64 0, .int .i64 0, .slice none 0 0] 32
      have hx7 := st.vk.lt
      have bn := below_new (w := Wc) (.cells #[.int .i8 0, .int .i64 0, .int .i64 0, .int .i64 0, .bool false, .slice none 0 0, .bool false, .int .i64 0, .int .i64 0, .int .i64 0, .int .i64 0, .int .i64 0, .string ⟨#[]⟩, .string ⟨#[]⟩, .int .i64 0, .int .i64 0, .int .i64 0, .slice none 0 0] 32)
      have st := st.next bn
      rw [← hWn, ← hxx] at v7
      rw [← hWn] at st
      rw [← hxx] at hx7
      rw [← hWn, ← hxx]
      clear hWn hxx bn
      obtain ⟨Wc, hWc⟩ : ∃ Wc, Wc = Wn := ⟨_, rfl⟩
      subst hWc
      have hcur := And.intro st.vb st.vk
      refine hK.out _ _ hcur ?_
      clear hK K
      refine fld_alone (i := 5) (by kernel_rfl) rfl (by rfl) (fun K hK => ?_)
      go_simp
      refine (HR.out g Wc st.rd).mono ?_
      rintro e Wn ⟨A, n, c, D, m, d, rfl, ho, hr, hk⟩
      have hw7 : b5 < Wc.heap.size := st.vk.lt
      have st := st.read hr hk
      have ho := ho.down (B := g + 1) (by have := st.hg; omega)
      have v7 := v7.kept hk (by have := st.hg; simp; omega)
      obtain ⟨Wc, hWc⟩ : ∃ Wc, Wc = Wn := ⟨_, rfl⟩
      subst hWc
      clear hr
      go_wp2_with fail
      have hcur := And.intro st.vb st.vk
      refine hK.out _ _ hcur ?_
      clear hK K
      clear hk
      refine fld_alone (i := 7) (by kernel_rfl) rfl (by rfl) (fun K hK => ?_)
      refine wp_store_var (.tmp 7) (.tmp 20) rfl rfl rfl v7 rfl (by kernel_rfl) (by simp [Value.oneCell', evals]) ?_
      intro Wn v9 o9
      have ho := ho.low v7 o9
      have st := st.only o9 hx7
      clear v7 o9
      have hcur := And.intro st.vb st.vk
      refine hK.out _ _ hcur ?_
      clear hK K
      refine wpAnyH_done (by kernel_rfl) ?_ _
      go_wp2_with fail
      go_meet
      exact ⟨x, A, n, c, D, m, d, rfl, hx7, v9, ho, st⟩
  case rest =>
    obtain ⟨x7, A, n, c, D, m, d, rfl, hx7, v7, ho, st⟩ := hcut
    simp only [evals] at v7
    have hcc := v7.cell 0 rfl
    have hf := v7.free
    have hcl := v7.lt
    go_upto_region 6 with fail
    have v8 := v7.set 0 (.int .i8 6)
    simp only [List.setIfInBounds_toArray, List.set_cons_zero] at v8
    refine wp_at (C := fun W => Var W x7 32 (evals ⟨6, yb, yes, nx, off, yr, yp⟩ A n c D m d) ∧ EOwn (g + 1) W ⟨6, yb, yes, nx, off, yr, yp⟩ A n c D m d ∧ R1 w W g b4 b5 s p bad) ⟨v8, ho.low v7 (Only.setCell _ _ _ _), st.only (Only.setCell _ _ _ _) hx7⟩ ?_
    clear v7 v8 hcc hf hcl ho st
    rintro W6 ⟨v6, hx6, st⟩
    simp only [evals] at v6
    have hcc := st.vb.cell 0 rfl
    have hcl := st.vb.lt
    obtain ⟨er0, her⟩ := endIs_of s p bad
    have HER := Lib.hid her
    clear her
    go_wp2_with fail
    refine (end_all g s p bad er0 W6 HER.out st.rd).mono ?_
    rintro e W7 ⟨rfl, nq, rfl⟩
    have bq : Below W6.heap.size W6 (W6.drewN nq) := (Below.refl _ _).drewN' nq
    have st := st.next bq
    have hx7 := hx6.next bq
    have v7 := v6.drewN nq
    clear hx6 v6 hcc hcl
    generalize W6.drewN nq = W7 at bq st hx7 v7 ⊢
    rcases HER.out with ⟨hbad, hps, rfl⟩ | ⟨hbp, rfl⟩
    · have y0 : ((0 : Int) != 0) = false := by decide
      have HBP : Hid (bad = false ∧ p = s.size) := ⟨hbad, hps⟩
      clear hbad hps HER
      obtain ⟨q, hq⟩ := iff_of (En.Good ⟨6, yb, yes, nx, off, yr, yp⟩)
      have HQ := Lib.hid hq
      clear hq
      go_wp2_with (refine wpList_load_want (by rfl) _ rfl Tryz.underlying32 rfl rfl v7 (by kernel_rfl) ?_)
      refine (emay_any ⟨6, yb, yes, nx, off, yr, yp⟩ A D n c m d W7.heap.size q W7 hx7.ein (Nat.le_refl _) HQ.out).mono ?_
      rintro e W8 ⟨rfl, h8⟩
      have st := st.next h8
      have v8 := v7.below h8 v7.lt
      have hx8 := hx7.next h8
      clear v7 hx7 bq
      cases q with
      | true =>
        obtain ⟨rfl, rfl⟩ : er = 0 ∧ x = ⟨6, yb, yes, nx, off, yr, yp⟩ := by
          rcases HT.out with ⟨_, _, _, h, h'⟩ | ⟨h | h | h, _⟩
          · exact ⟨h, h'⟩
          · rw [HBP.out.1] at h; cases h
          · exact absurd HBP.out.2 h
          · exact absurd (HQ.out.1 (by first | rfl | trivial)) h
        clear HT HQ HR HBP
        go_wp2_with (first | refine wpList_load_var rfl _ rfl Tryz.underlying32 rfl rfl v8 (by kernel_rfl) ?_ | (refine wpList_store_var rfl _ _ rfl rfl rfl st.vr rfl (by kernel_rfl) (by simp [Value.oneCell']) ?_; intro W9 v9 o9))
        refine bodyPost_ret (results_var_tmp rfl rfl rfl v9 Tryz.underlying32 rfl (by kernel_rfl)) rfl ?_
        exact ⟨A, n, c, D, m, d, rfl, (hx8.only o9 (by omega)).down (by omega), Only.below st.below o9 (Nat.le_refl _)⟩
      | false =>
        obtain ⟨rfl, rfl⟩ : er = 70 ∧ x = noEn := by
          rcases HT.out with ⟨_, _, h, _⟩ | ⟨_, h, h'⟩
          · have := HQ.out.2 h; cases this
          · exact ⟨h, h'⟩
        clear HT HQ HR HBP hx8 v8
        go_wp2_with (refine wpList_store_var rfl _ _ rfl rfl rfl st.vr rfl (by kernel_rfl) (by simp [Value.oneCell']) ?_; intro W9 v9 o9)
        refine bodyPost_ret (results_var_tmp rfl rfl rfl v9 Tryz.underlying32 rfl (by kernel_rfl)) rfl ?_
        exact ⟨none, 0, 0, none, 0, 0, rfl, noEn_own _ _, Only.below st.below o9 (Nat.le_refl _)⟩
    · have y0 : ((70 : Int) != 0) = true := by decide
      obtain ⟨rfl, rfl⟩ : er = 70 ∧ x = noEn := by
        rcases HT.out with ⟨h1, h2, _⟩ | ⟨_, h, h'⟩
        · rcases hbp with h | h
          · rw [h1] at h; cases h
          · exact absurd h2 h
        · exact ⟨h, h'⟩
      clear HT HR hx7 v7 hbp HER bq
      go_wp2_with (refine wpList_store_var rfl _ _ rfl rfl rfl st.vr rfl (by kernel_rfl) (by simp [Value.oneCell']) ?_; intro W9 v9 o9)
      refine bodyPost_ret (results_var_tmp rfl rfl rfl v9 Tryz.underlying32 rfl (by kernel_rfl)) rfl ?_
      exact ⟨none, 0, 0, none, 0, 0, rfl, noEn_own _ _, Only.below st.below o9 (Nat.le_refl _)⟩

theorem eread_own (s : ByteArray) (x : En) (er : Int) (w : World) (h : EReadIs s x er) (hx : s.size ≤ 1000000) : Calls Tryz.prog 18 #[.string s] w (EReadOwn w x er) := by
  obtain ⟨k, p0, b0, y, p, bad, hk, h0, hb, hT⟩ := h.raw progLim_ok (K := 6) (by omega)
  have hr := reads_of hb hx (h0.le (Nat.zero_le _))
  have hyk := hb.kind
  obtain ⟨yk, yb, yes, nx, off, yr, yp⟩ := y
  simp only at hyk
  subst hyk
  obtain ⟨r0, r1, r2, r3, r4, r5, r6⟩ := hr
  have hc : k = 0 ∨ k = 1 ∨ k = 2 ∨ k = 3 ∨ k = 4 ∨ k = 5 ∨ k = 6 := by omega
  rcases hc with rfl | rfl | rfl | rfl | rfl | rfl | rfl
  · exact eread_data s x er p0 p b0 bad yb yes nx off yr yp w hx h0 (r0 rfl) hT
  · exact eread_mark s x er p0 p b0 bad yb yes nx off yr yp w hx h0 (r1 rfl) hT
  · exact eread_cut s x er p0 p b0 bad yb yes nx off yr yp w hx h0 (r2 rfl) hT
  · exact eread_copied s x er p0 p b0 bad yb yes nx off yr yp w hx h0 (r3 rfl) hT
  · exact eread_drop s x er p0 p b0 bad yb yes nx off yr yp w hx h0 (r4 rfl) hT
  · exact eread_row s x er p0 p b0 bad yb yes nx off yr yp w hx h0 (r5 rfl) hT
  · exact eread_state s x er p0 p b0 bad yb yes nx off yr yp w hx h0 (r6 rfl) hT
theorem eread_any (s : ByteArray) (x : En) (er : Int) (w : World) (h : EReadIs s x er) (hx : s.size ≤ 1000000) : Calls Tryz.prog 18 #[.string s] w (EReadRes w x er) := (eread_own s x er w h hx).mono fun _ _ h => h.res
end Go.Proofs.YtchpemgamgcbkaaGreat
