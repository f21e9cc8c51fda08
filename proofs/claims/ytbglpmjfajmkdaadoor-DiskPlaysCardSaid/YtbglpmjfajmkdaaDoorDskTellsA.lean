/-
  The law DiskTells: what serves all of its walk, and its ways out. Conditions: those that each theorem names.
-/
import Derived.Test.YtbglpmjfajmkdaaDoorDskWakes
import Derived.Test.YtbglpmjfajmkdaaDoorDskWr
import Derived.Test.YtbglpmjfajmkdaaDoorDskLawPlain
import Derived.Test.YtbglpmjfajmkdaaDoorDskLeft
import Derived.Test.YtbglpmjfajmkdaaDoorDskRefDo
import Derived.Test.YtbglpmjfajmkdaaDoorDskRefCrash
namespace Go.Proofs.YtbglpmjfajmkdaaDoor
open Go.RowKit DP

theorem tells_small (d : Dk) (h : great d = false) : Small d.fs := by
  unfold great at h
  rw [Bool.or_eq_false_iff] at h
  have h1 := of_decide_eq_false h.1
  refine ⟨by omega, fun f hf => ?_⟩
  have h2 := List.any_eq_false.1 h.2 f hf
  unfold greatF at h2
  simp only [Bool.or_eq_true, decide_eq_true_eq, not_or] at h2
  omega
/-- The arguments: two disks and an operation in their variables, files, keep. -/
structure Tl (A : Option Addr) (n c : Nat) (fs : List Fl) (cap left : Int) (down : Bool) (O : Option Addr) (no co : Nat) (gs : List Fl) (capo lefto : Int) (downo : Bool) (vo : Int) (vf vb : ByteArray) (vn : Int) (K : Option Addr) (keep : List Int) (w W : World) : Prop where
  p : Var W w.heap.size 24 #[.slice A n c, .int .i64 cap, .int .i64 left, .bool down]
  q : Var W (w.heap.size + 1) 24 #[.slice O no co, .int .i64 capo, .int .i64 lefto, .bool downo]
  u : Var W (w.heap.size + 1 + 1) 27 #[.int .i8 vo, .string vf, .string vb, .int .i64 vn]
  s : Seen W w.heap.size A (fcells fs)
  so : Seen W w.heap.size O (fcells gs)
  ks : Seen W w.heap.size K (keep.map (Value.int .i64))
  b : Below w.heap.size w W
  z : w.heap.size + 3 ≤ W.heap.size
section
variable {A : Option Addr} {n c : Nat} {fs : List Fl} {cap left : Int} {down : Bool} {O : Option Addr} {no co : Nat} {gs : List Fl} {capo lefto : Int} {downo : Bool} {vo : Int} {vf vb : ByteArray} {vn : Int} {K : Option Addr} {keep : List Int} {w W W' : World}
theorem Tl.next (h : Tl A n c fs cap left down O no co gs capo lefto downo vo vf vb vn K keep w W) (k : Below W.heap.size W W') : Tl A n c fs cap left down O no co gs capo lefto downo vo vf vb vn K keep w W' :=
  ⟨h.p.below k h.p.lt, h.q.below k h.q.lt, h.u.below k h.u.lt, h.s.below (k.mono h.b.size), h.so.below (k.mono h.b.size), h.ks.below (k.mono h.b.size), h.b.trans (k.mono h.b.size), Nat.le_trans h.z k.size⟩
theorem Tl.start (hs : Seen w w.heap.size A (fcells fs)) (hso : Seen w w.heap.size O (fcells gs)) (hks : Seen w w.heap.size K (keep.map (Value.int .i64))) :
    Tl A n c fs cap left down O no co gs capo lefto downo vo vf vb vn K keep w (((w.alloc (.cells #[.slice A n c, .int .i64 cap, .int .i64 left, .bool down] 24)).alloc (.cells #[.slice O no co, .int .i64 capo, .int .i64 lefto, .bool downo] 24)).alloc (.cells #[.int .i8 vo, .string vf, .string vb, .int .i64 vn] 27)) :=
  have h := new3 w #[.slice A n c, .int .i64 cap, .int .i64 left, .bool down] #[.slice O no co, .int .i64 capo, .int .i64 lefto, .bool downo] #[.int .i8 vo, .string vf, .string vb, .int .i64 vn] 24 24 27
  have hb := bel3 w #[.slice A n c, .int .i64 cap, .int .i64 left, .bool down] #[.slice O no co, .int .i64 capo, .int .i64 lefto, .bool downo] #[.int .i8 vo, .string vf, .string vb, .int .i64 vn] 24 24 27
  ⟨h.1, h.2.1, h.2.2, hs.below hb, hso.below hb, hks.below hb, hb, by simp⟩
theorem Tl.set4 (h : Tl A n c fs cap left down O no co gs capo lefto downo vo vf vb vn K keep w W) {g : Nat} (hg : w.heap.size + 3 ≤ g) (a b c' d : Value) : Tl A n c fs cap left down O no co gs capo lefto downo vo vf vb vn K keep w ((((W.setCell ⟨g, 0, none⟩ a).setCell ⟨g, 1, none⟩ b).setCell ⟨g, 2, none⟩ c').setCell ⟨g, 3, none⟩ d) :=
  have hb : Below w.heap.size W ((((W.setCell ⟨g, 0, none⟩ a).setCell ⟨g, 1, none⟩ b).setCell ⟨g, 2, none⟩ c').setCell ⟨g, 3, none⟩ d) := set4_below (by omega)
  ⟨set4_other h.p (by omega), set4_other h.q (by omega), set4_other h.u (by omega), h.s.below hb, h.so.below hb, h.ks.below hb, h.b.trans hb, by simpa using h.z⟩
end
theorem seen4 {W : World} {B g : Nat} {A : Option Addr} {fs : List Fl} {o0 o1 o2 o3 a b c d : Value} (h : Seen W B A (fcells fs)) (v : Var W g 24 #[o0, o1, o2, o3]) (ho : ∀ (i : Nat) (s : ByteArray), (#[o0, o1, o2, o3] : Array Value)[i]? ≠ some (Value.string s)) :
    Seen ((((W.setCell ⟨g, 0, none⟩ a).setCell ⟨g, 1, none⟩ b).setCell ⟨g, 2, none⟩ c).setCell ⟨g, 3, none⟩ d) B A (fcells fs) :=
  have ha := seen_apart h v ho
  (((h.off ha).off ha).off ha).off ha
theorem one_cells (vo : Int) (vf vb : ByteArray) (vn : Int) (W : World) (e : TypeId) : Seen (W.alloc (.cells #[.int .i8 vo, .string vf, .string vb, .int .i64 vn] e)) (W.heap.size + 1) (some ⟨W.heap.size, 0, none⟩) (wcells [⟨vo, vf, vb, vn⟩]) :=
  Seen.new W (wcells [⟨vo, vf, vb, vn⟩]) e
set_option maxRecDepth 100000 in
set_option maxHeartbeats 8000000 in
theorem tells_out (A : Option Addr) (n c : Nat) (fs : List Fl) (cap left : Int) (down : Bool) (O : Option Addr) (no co : Nat) (gs : List Fl) (capo lefto : Int) (downo : Bool) (vo : Int) (vf vb : ByteArray) (vn : Int) (k : Int) (K : Option Addr) (kn kc : Nat) (keep : List Int) (name : ByteArray) (w : World) (hn : fs.length = n) (hnc : n ≤ c) (hs : Seen w w.heap.size A (fcells fs)) (hmax : n ≤ 9223372036854775807) (hsz : ∀ f ∈ fs, f.b.size ≤ 9223372036854775807 ∧ f.n.size ≤ 9223372036854775807) (hlw : -9223372036854775808 ≤ left ∧ left ≤ 9223372036854775807) (hno : gs.length = no) (hso : Seen w w.heap.size O (fcells gs)) (hmo : no ≤ 9223372036854775807) (hzo : ∀ f ∈ gs, f.b.size ≤ 9223372036854775807 ∧ f.n.size ≤ 9223372036854775807) (hvs : vb.size ≤ 9223372036854775807 ∧ vf.size ≤ 9223372036854775807) (hkn : keep.length = kn) (hkm : kn ≤ 9223372036854775807) (hks : Seen w w.heap.size K (keep.map (Value.int .i64))) (hkw : ∀ x ∈ keep, -9223372036854775808 ≤ x ∧ x ≤ 9223372036854775807) (hnm : name.size ≤ 9223372036854775807) (hG : Glob w)
    (hout : ¬ (great ⟨fs, cap, left, down⟩ = false ∧ great ⟨gs, capo, lefto, downo⟩ = false ∧ greatW [⟨vo, vf, vb, vn⟩] = false ∧ kn ≤ 200 ∧ name.size ≤ 100)) : Calls Tryd.prog 3 #[.agg #[.slice A n c, .int .i64 cap, .int .i64 left, .bool down], .agg #[.slice O no co, .int .i64 capo, .int .i64 lefto, .bool downo], .agg #[.int .i8 vo, .string vf, .string vb, .int .i64 vn], .int .i64 k, .slice K kn kc, .string name] w fun e w' => e = .returned (.bool true) ∧ Below w.heap.size w w' := by
  have HN := Lib.hid hn
  have HNO := Lib.hid hno
  have HG := Lib.hid hG
  have HSZ : Hid (∀ x ∈ [(⟨vo, vf, vb, vn⟩ : Wr)], x.b.size ≤ 9223372036854775807 ∧ x.file.size ≤ 9223372036854775807) := by
    intro x hx
    obtain rfl := List.mem_singleton.1 hx
    exact hvs
  have _u := hkw
  have _v := hnc
  have _x := hlw
  have _y := hkn
  clear _u _v _x _y hn hno hG
  obtain ⟨b1, hb1⟩ : ∃ b1, great ⟨fs, cap, left, down⟩ = b1 := ⟨_, rfl⟩
  obtain ⟨b2, hb2⟩ : ∃ b2, great ⟨gs, capo, lefto, downo⟩ = b2 := ⟨_, rfl⟩
  obtain ⟨b3, hb3⟩ : ∃ b3, greatW [⟨vo, vf, vb, vn⟩] = b3 := ⟨_, rfl⟩
  have HO : Hid (¬ (b1 = false ∧ b2 = false ∧ b3 = false ∧ kn ≤ 200 ∧ name.size ≤ 100)) := by show ¬ _; rw [← hb1, ← hb2, ← hb3]; exact hout
  have HGR := Lib.hid hb1
  have HGO := Lib.hid hb2
  have HGW := Lib.hid hb3
  clear hb1 hb2 hb3 hout
  go_enter Tryd.func3, Tryd.ntmps3
  go_wp2_with fail
  obtain ⟨W0, hW0⟩ : ∃ W0, W0 = ((w.alloc (.cells #[.slice A n c, .int .i64 cap, .int .i64 left, .bool down] 24)).alloc (.cells #[.slice O no co, .int .i64 capo, .int .i64 lefto, .bool downo] 24)).alloc (.cells #[.int .i8 vo, .string vf, .string vb, .int .i64 vn] 27) := ⟨_, rfl⟩
  have h0 : Tl A n c fs cap left down O no co gs capo lefto downo vo vf vb vn K keep w W0 := by rw [hW0]; exact Tl.start hs hso hks
  rw [← hW0]
  clear hW0
  refine (great_any A n c w.heap.size fs cap left down b1 _ HN.out HGR.out h0.s h0.b.size hmax hsz).mono ?_
  rintro e W1 ⟨rfl, hx⟩
  have h1 := h0.next hx
  clear hx h0
  obtain ⟨d0, d1, d2, d3, f1⟩ := h1.p.cells4
  obtain ⟨x0, x1, x2, x3, f2⟩ := h1.q.cells4
  obtain ⟨u0, u1, u2, u3, f3⟩ := h1.u.cells4
  have l1 := h1.p.lt
  have l2 := h1.q.lt
  have l3 := h1.u.lt
  cases b1
  case true =>
    go_wp2_with fail
    refine (wakes_any _ (HG.out.next h1.b)).mono ?_
    rintro e WX ⟨rfl, hx⟩
    have hbx := h1.b.trans (hx.mono h1.b.size)
    go_wp2
    go_ret
    exact ⟨rfl, hbx⟩
  go_wp2_with fail
  clear d0 d1 d2 d3 x0 x1 x2 x3 u0 u1 u2 u3 f1 f2 f3 l1 l2 l3
  refine (great_any O no co w.heap.size gs capo lefto downo b2 _ HNO.out HGO.out h1.so h1.b.size hmo hzo).mono ?_
  rintro e W2 ⟨rfl, hx⟩
  have h2 := h1.next hx
  clear hx h1
  obtain ⟨d0, d1, d2, d3, f1⟩ := h2.p.cells4
  obtain ⟨x0, x1, x2, x3, f2⟩ := h2.q.cells4
  obtain ⟨u0, u1, u2, u3, f3⟩ := h2.u.cells4
  have l1 := h2.p.lt
  have l2 := h2.q.lt
  have l3 := h2.u.lt
  cases b2
  case true =>
    go_wp2_with fail
    refine (wakes_any _ (HG.out.next h2.b)).mono ?_
    rintro e WX ⟨rfl, hx⟩
    have hbx := h2.b.trans (hx.mono h2.b.size)
    go_wp2
    go_ret
    exact ⟨rfl, hbx⟩
  go_wp2_with fail
  clear d0 d1 d2 d3 x0 x1 x2 x3 u0 u1 u2 u3 f1 f2 f3 l1 l2 l3
  have hsw := one_cells vo vf vb vn W2 27
  have hbw := bel1 W2 #[.int .i8 vo, .string vf, .string vb, .int .i64 vn] 27
  refine (greatW_any (some ⟨W2.heap.size, 0, none⟩) 1 1 (W2.heap.size + 1) [⟨vo, vf, vb, vn⟩] b3 _ rfl HGW.out (one_cells vo vf vb vn W2 _) (by simp) (by omega) HSZ.out).mono ?_
  rintro e W3 ⟨rfl, hx⟩
  have h3 := (h2.next (bel1 W2 _ _)).next hx
  clear hx h2 hsw hbw
  obtain ⟨d0, d1, d2, d3, f1⟩ := h3.p.cells4
  obtain ⟨x0, x1, x2, x3, f2⟩ := h3.q.cells4
  obtain ⟨u0, u1, u2, u3, f3⟩ := h3.u.cells4
  have l1 := h3.p.lt
  have l2 := h3.q.lt
  have l3 := h3.u.lt
  cases b3
  case true =>
    go_wp2_with fail
    refine (wakes_any _ (HG.out.next h3.b)).mono ?_
    rintro e WX ⟨rfl, hx⟩
    have hbx := h3.b.trans (hx.mono h3.b.size)
    go_wp2
    go_ret
    exact ⟨rfl, hbx⟩
  by_cases hk : 200 < kn
  · have t1 : decide ((200 : Int) < (kn : Int)) = true := decide_eq_true (by omega)
    go_wp2_with fail
    refine (wakes_any _ (HG.out.next h3.b)).mono ?_
    rintro e WX ⟨rfl, hx⟩
    have hbx := h3.b.trans (hx.mono h3.b.size)
    go_wp2
    go_ret
    exact ⟨rfl, hbx⟩
  by_cases hm : 100 < name.size
  · have t1 : decide ((200 : Int) < (kn : Int)) = false := bool_dec _ (by omega)
    have t2 : decide ((100 : Int) < (name.size : Int)) = true := decide_eq_true (by omega)
    go_wp2_with fail
    refine (wakes_any _ (HG.out.next h3.b)).mono ?_
    rintro e WX ⟨rfl, hx⟩
    have hbx := h3.b.trans (hx.mono h3.b.size)
    go_wp2
    go_ret
    exact ⟨rfl, hbx⟩
  exact (HO.out (by first | exact ⟨rfl, rfl, rfl, by omega, by omega⟩ | (simp; omega))).elim
end Go.Proofs.YtbglpmjfajmkdaaDoor
