/-
  Contracts of place at files, of the closures that are handed to it, and of Get: what each returns and what it does to memory. Conditions: those that each theorem names.
-/
import Derived.Test.YtpppeadmhfggkaaGreatDoorDskVars
namespace Go.Proofs.YtpppeadmhfggkaaGreatDoor
open Go.RowKit DP

/-- Get's closure: has a file the name? -/
theorem get1_any (g : Nat) (name : ByteArray) (f : Fl) (b : Bool) (w : World) (hv : Var w g 9 #[.string name]) (hb : eqS f.n name = b) :
    Calls Tryz.prog 54 #[.agg #[.string f.n, .string f.b, .int .i64 f.s], .pointer (some ⟨g, 0, none⟩)] w fun e w' => e = .returned (.bool b) ∧ Below w.heap.size w w' := by
  have d0 := hv.cell 0 rfl
  have hg := hv.lt
  unfold eqS at hb
  obtain ⟨fn, fb, fs_⟩ := f
  go_enter Tryz.func54, Tryz.ntmps54
  go_wp2
  go_ret
  exact ⟨rfl, (Below.refl _ _).alloc (Nat.le_refl _) _⟩

/-- with's closures: does a file come not ahead of the other, does it come behind? -/
theorem with1_any (g : Nat) (o f : Fl) (b : Bool) (w : World) (hv : Var w g 48 #[.string o.n, .string o.b, .int .i64 o.s]) (hb : (!ltS f.n o.n) = b) :
    Calls Tryz.prog 73 #[.agg #[.string f.n, .string f.b, .int .i64 f.s], .pointer (some ⟨g, 0, none⟩)] w fun e w' => e = .returned (.bool b) ∧ Below w.heap.size w w' := by
  have d0 := hv.cell 0 rfl
  have hg := hv.lt
  unfold ltS at hb
  obtain ⟨fn, fb, fs_⟩ := f
  obtain ⟨on, ob, os_⟩ := o
  subst hb
  go_enter Tryz.func73, Tryz.ntmps73
  go_wp2
  go_ret
  exact ⟨rfl, (Below.refl _ _).alloc (Nat.le_refl _) _⟩
theorem with2_any (g : Nat) (o f : Fl) (b : Bool) (w : World) (hv : Var w g 48 #[.string o.n, .string o.b, .int .i64 o.s]) (hb : ltS o.n f.n = b) :
    Calls Tryz.prog 74 #[.agg #[.string f.n, .string f.b, .int .i64 f.s], .pointer (some ⟨g, 0, none⟩)] w fun e w' => e = .returned (.bool b) ∧ Below w.heap.size w w' := by
  have d0 := hv.cell 0 rfl
  have hg := hv.lt
  have hb' : (!(Op.bytesLess f.n.toList o.n.toList || f.n.toList == o.n.toList)) = b := by
    rw [← hb]
    by_cases h : f.n = o.n
    · rw [h, ltS_irrefl]; simp
    · rcases ltS_total h with h1 | h1
      · obtain ⟨z1, z2, z3, z4⟩ := name_less h1
        rw [z1, ltS_asymm h1]; rfl
      · obtain ⟨z1, z2, z3, z4⟩ := name_less h1
        rw [z2, z4, h1]; rfl
  clear hb
  obtain ⟨fn, fb, fs_⟩ := f
  obtain ⟨on, ob, os_⟩ := o
  subst hb'
  go_enter Tryz.func74, Tryz.ntmps74
  go_wp2
  go_ret
  exact ⟨rfl, (Below.refl _ _).alloc (Nat.le_refl _) _⟩
theorem place_step {fs : List Fl} {k : Nat} {f : Fl} (h : fs[k]? = some f) (p : Fl → Bool) : place p (fs.drop k) = if p f then 0 else place p (fs.drop (k + 1)) + 1 := by
  obtain ⟨hk, hf⟩ := List.getElem?_eq_some_iff.1 h
  rw [List.drop_eq_getElem_cons hk, hf]; rfl

set_option maxRecDepth 100000 in
set_option maxHeartbeats 400000 in
theorem place_any (F : FuncId) (g T : Nat) (vs : Array Value) (p : Fl → Bool) (A : Option Addr) (n c B r : Nat) (fs : List Fl) (w : World) (hr : place p fs = r) (hn : fs.length = n) (hs : Seen w B A (fcells fs)) (hB : B ≤ w.heap.size) (h100 : n ≤ 100)
    (hv : Var w g T vs) (hent : ∀ (args : Array Value) (wx : World), (callFunc F args).run Tryz.prog wx = .ok (.enter F args) wx) (hcl : ∀ (f : Fl) (b : Bool) (wx : World), Var wx g T vs → p f = b → Calls Tryz.prog F #[.agg #[.string f.n, .string f.b, .int .i64 f.s], .pointer (some ⟨g, 0, none⟩)] wx fun e w' => e = .returned (.bool b) ∧ Below wx.heap.size wx w') :
    Calls Tryz.prog 53 #[.slice A n c, .func (.func F) #[] #[.pointer (some ⟨g, 0, none⟩)]] w fun e w' => e = .returned (.int .i64 (r : Int)) ∧ Below w.heap.size w w' := by
  have HN := Lib.hid hn
  have HR := Lib.hid hr
  have HC := Lib.hid hcl
  have hgl := hv.lt
  clear hn hr hcl
  go_enter Tryz.func53, Tryz.ntmps53
  go_wp2
  go_loopw [9] (fun i wr => ∃ (k : Nat), k ≤ n ∧ i = .int .i64 k ∧ place p fs = k + place p (fs.drop k) ∧ Below w.heap.size w wr) (fun i _ => n - (intOf i).toNat)
  case atStart => exact ⟨0, by omega, rfl, by simp, Below.refl _ _⟩
  case round =>
    obtain ⟨k, hk, rfl, hp, hbw⟩ := hrel
    have HP := Lib.hid hp
    clear hp
    have hbz := hbw.size
    by_cases hlt : k < n
    · obtain ⟨f, hf⟩ := file_here HN.out hlt
      obtain ⟨b, off, rfl, hb, d0, d1, d2⟩ := file_at (hs.below (hbw.mono hB)) hf
      have HF := Lib.hid (place_step hf p)
      have hv2 : Var (wr.alloc (.cells #[.string f.n, .string f.b, .int .i64 f.s] 48)) g T vs := (Var.below hv hbw hgl).alloc _
      clear hf
      cases hpf : p f
      · have HPF := Lib.hid hpf
        clear hpf
        go_wp2_with fail
        refine (HC.out f false _ ?_ HPF.out).mono ?_
        · exact hv2
        rintro e w3 ⟨rfl, hb3⟩
        have hb4 : Below w.heap.size w w3 := (hbw.alloc hbz _).trans (hb3.mono (by simp; omega))
        go_wp2
        go_roundw
        case rel => exact ⟨k + 1, by omega, by go_num, by rw [HP.out, HF.out, HPF.out, if_neg (by decide)]; omega, hb4⟩
        case measure => simp [intOf]; omega
      · have HPF := Lib.hid hpf
        clear hpf
        go_wp2_with fail
        refine (HC.out f true _ ?_ HPF.out).mono ?_
        · exact hv2
        rintro e w3 ⟨rfl, hb3⟩
        have hb4 : Below w.heap.size w w3 := (hbw.alloc hbz _).trans (hb3.mono (by simp; omega))
        go_wp2
        go_ret
        exact ⟨ret_i64 (by have := HP.out; rw [HF.out, HPF.out, if_pos rfl, HR.out] at this; omega), hb4⟩
    · have HE : Hid (k = r) := by
        show k = r
        have := HP.out
        rw [HR.out, List.drop_of_length_le (by have := HN.out; omega)] at this
        simpa [place] using this.symm
      clear HP
      go_wp2
      go_ret
      exact ⟨ret_i64 (by have := HE.out; omega), hbw⟩

theorem enter_get1 (args : Array Value) (wx : World) : (callFunc 54 args).run Tryz.prog wx = .ok (.enter 54 args) wx := by kernel_rfl
theorem enter_with1 (args : Array Value) (wx : World) : (callFunc 73 args).run Tryz.prog wx = .ok (.enter 73 args) wx := by kernel_rfl
theorem enter_with2 (args : Array Value) (wx : World) : (callFunc 74 args).run Tryz.prog wx = .ok (.enter 74 args) wx := by kernel_rfl
set_option maxRecDepth 100000 in
set_option maxHeartbeats 400000 in
theorem get_none (A : Option Addr) (n c B : Nat) (fs : List Fl) (cap left : Int) (down : Bool) (name : ByteArray) (w : World) (hg : get fs name = none) (hn : fs.length = n) (hs : Seen w B A (fcells fs)) (hB : B ≤ w.heap.size) (h100 : n ≤ 100) :
    Calls Tryz.prog 31 #[.agg #[.slice A n c, .int .i64 cap, .int .i64 left, .bool down], .string name] w fun e w' => e = .returned (.tuple #[.agg #[.string none_, .string none_, .int .i64 0], .bool false]) ∧ Below w.heap.size w w' := by
  have hp : place (fun f => eqS f.n name) fs = n := by rw [place_none hg, hn]
  have HP := Lib.hid hp
  have HN := Lib.hid hn
  clear hg hp hn
  unfold none_
  have hmf : ∀ (fn : Fn) (first cap : Array Value) (w : World), (Instr.makeFunc fn first cap).run Tryz.prog w = .ok (.func fn first cap) w := fun _ _ _ _ => rfl
  go_enter Tryz.func31, Tryz.ntmps31
  go_wp2_with fail
  have hz0 : B ≤ w.heap.size + 1 + 1 + 1 := by omega
  have hvs := new3 w #[.slice A n c, .int .i64 cap, .int .i64 left, .bool down] #[.string name] #[.string { data := #[] }, .string { data := #[] }, .int .i64 0] 24 9 48
  have hbs := bel3 w #[.slice A n c, .int .i64 cap, .int .i64 left, .bool down] #[.string name] #[.string { data := #[] }, .string { data := #[] }, .int .i64 0] 24 9 48
  refine (place_any 54 (w.heap.size + 1) 9 #[.string name] (fun f => eqS f.n name) A n c B n fs _ HP.out HN.out (hs.below (hbs.mono hB)) (by simp; omega) h100 hvs.2.1 enter_get1 (fun f b wx hv hb => get1_any _ name f b wx hv hb)).mono ?_
  rintro e w1 ⟨rfl, hb1⟩
  have v1 := Var.below hvs.1 hb1 (by simp; omega)
  have v3 := Var.below hvs.2.2 hb1 (by simp)
  have hb2 : Below w.heap.size w w1 := hbs.trans (hb1.mono (by simp; omega))
  have hz1 : w.heap.size + 3 ≤ w1.heap.size := by have := hb1.size; simp at this; omega
  have hs1 := hs.below (hb2.mono hB)
  clear hvs hbs hb1 hmf
  obtain ⟨d0, d1, d2, d3, f1⟩ := v1.cells4
  obtain ⟨e0, e1, e2, f3⟩ := v3.cells3
  clear v1 v3
  go_wp2
  refine bodyPost_ret (v := .tuple #[.agg #[.string { data := #[] }, .string { data := #[] }, .int .i64 0], .bool false]) (by simp [results, Tryz.results31, go_sem, e0, e1, e2]) rfl ⟨rfl, ?_⟩
  repeat (first | with_reducible exact hb2 | refine Below.setCell ?_ (by simp; omega) _)

set_option maxRecDepth 100000 in
set_option maxHeartbeats 400000 in
theorem get_some (A : Option Addr) (n c B : Nat) (fs : List Fl) (cap left : Int) (down : Bool) (name : ByteArray) (w : World) (f : Fl) (hg : get fs name = some f) (hn : fs.length = n) (hs : Seen w B A (fcells fs)) (hB : B ≤ w.heap.size) (h100 : n ≤ 100) :
    Calls Tryz.prog 31 #[.agg #[.slice A n c, .int .i64 cap, .int .i64 left, .bool down], .string name] w fun e w' => e = .returned (.tuple #[.agg #[.string f.n, .string f.b, .int .i64 f.s], .bool true]) ∧ Below w.heap.size w w' := by
  obtain ⟨hlt, hat⟩ := place_some hg
  obtain ⟨r, hp⟩ : ∃ r, place (fun f => eqS f.n name) fs = r := ⟨_, rfl⟩
  rw [hp] at hat
  have hrn : r < n := by rw [← hn, ← hp]; exact hlt
  have HP := Lib.hid hp
  have HN := Lib.hid hn
  have HAT := Lib.hid hat
  clear hg hp hn hlt hat
  have hmf : ∀ (fn : Fn) (first cap : Array Value) (w : World), (Instr.makeFunc fn first cap).run Tryz.prog w = .ok (.func fn first cap) w := fun _ _ _ _ => rfl
  go_enter Tryz.func31, Tryz.ntmps31
  go_wp2_with fail
  have hz0 : B ≤ w.heap.size + 1 + 1 + 1 := by omega
  have hvs := new3 w #[.slice A n c, .int .i64 cap, .int .i64 left, .bool down] #[.string name] #[.string { data := #[] }, .string { data := #[] }, .int .i64 0] 24 9 48
  have hbs := bel3 w #[.slice A n c, .int .i64 cap, .int .i64 left, .bool down] #[.string name] #[.string { data := #[] }, .string { data := #[] }, .int .i64 0] 24 9 48
  refine (place_any 54 (w.heap.size + 1) 9 #[.string name] (fun f => eqS f.n name) A n c B r fs _ HP.out HN.out (hs.below (hbs.mono hB)) (by simp; omega) h100 hvs.2.1 enter_get1 (fun f b wx hv hb => get1_any _ name f b wx hv hb)).mono ?_
  rintro e w1 ⟨rfl, hb1⟩
  have v1 := Var.below hvs.1 hb1 (by simp; omega)
  have v3 := Var.below hvs.2.2 hb1 (by simp)
  have hb2 : Below w.heap.size w w1 := hbs.trans (hb1.mono (by simp; omega))
  have hz1 : w.heap.size + 3 ≤ w1.heap.size := by have := hb1.size; simp at this; omega
  have hs1 := hs.below (hb2.mono hB)
  clear hvs hbs hb1 hmf
  obtain ⟨d0, d1, d2, d3, f1⟩ := v1.cells4
  obtain ⟨e0, e1, e2, f3⟩ := v3.cells3
  clear v1 v3
  obtain ⟨b, off, rfl, hb, g0, g1, g2⟩ := file_at hs1 HAT.out
  obtain ⟨fn, fb, fs_⟩ := f
  simp only at g0 g1 g2
  have hne : decide (r = n) = false := bool_dec _ (by omega)
  have hne2 : ((r : Int) == (n : Int)) = false := by rw [beq_eq_false_iff_ne]; omega
  have hge : (0 : Int) ≤ (r : Int) := by omega
  go_wp2
  refine bodyPost_ret (v := .tuple #[.agg #[.string fn, .string fb, .int .i64 fs_], .bool true]) (by simp [results, Tryz.results31, go_sem, e0, e1, e2]) rfl ⟨rfl, ?_⟩
  repeat (first | with_reducible exact hb2 | refine Below.setCell ?_ (by simp; omega) _)

end Go.Proofs.YtpppeadmhfggkaaGreatDoor
