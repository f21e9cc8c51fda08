/-
  Contracts of fields' Wrong, of the function that read defers, and of read: what each returns and what it does to memory. Conditions: those that each theorem names.
-/
import Derived.Test.YtplpagnnlggfgaaDoorRepG3
import Derived.Deep.RegionWith
import Derived.StillTailTactics
namespace Go
/-- A part of a deferred closure that does not recover any more, walked as any body. -/
theorem wpS_of_body {P : Program} {fn : Func} {c₀ : Frame} {cs : List Frame} {R : Ending → FrameMode → World → Prop} {u : FrameMode} {c : Code} {a : Act} {w : World}
    (h : c.wp P (bodyPost P fn (fun e w' => R e u w')) a w) : c.wpS P (bodyPostS P fn c₀ cs R) a ({ c₀ with mode := u } :: cs) w :=
  wpS_of_wp (wp_mono h fun e a' w' hq => by
    cases e with
    | normal => obtain ⟨hd, v, hr, hR⟩ := hq; exact ⟨hd, u, rfl, v, hr, hR⟩
    | ret => obtain ⟨hd, v, hr, hR⟩ := hq; exact ⟨hd, u, rfl, v, hr, hR⟩
    | panic ch => obtain ⟨hd, hR⟩ := hq; exact ⟨hd, u, rfl, hR⟩
    | exit id => exact hq
    | goto l => exact hq
    | outgrown => exact ⟨u, hq⟩)
theorem wpS_of_body_same {P : Program} {fn : Func} {c₀ : Frame} {cs : List Frame} {R : Ending → FrameMode → World → Prop} {u : FrameMode} {c : Code} {a : Act} {w : World} (hu : c₀.mode = u)
    (h : c.wp P (bodyPost P fn (fun e w' => R e u w')) a w) : c.wpS P (bodyPostS P fn c₀ cs R) a (c₀ :: cs) w := by
  have := wpS_of_body (c₀ := c₀) (cs := cs) h
  subst hu
  exact this
/-- A region that draws its order: its first n operations turn nothing, each of the others waits for the one ahead. -/
theorem wp_region_head {P : Program} {id : Nat} {Q : Exit → Act → World → Prop} {a : Act} {w : World} {l : List Oper} (n : Nat) (hm : P.follows .mixedOrders = true) (hB : Region.lexTailB .any l.toArray n = true)
    (h : wpStill P l.toArray w.drew (fun a' => wpList P l.toArray Q (l.drop n) a' w.drew) (l.take n) a) : (Code.region id l.toArray true).wp P Q a w :=
  wp_region_still_tail n hm hB h
end Go
namespace Go.Proofs.YtplpagnnlggfgaaDoor
open Go.RowKit Go.Extern.Stop Go.Stop Go.Extern

theorem wrong_nil (w : World) : Calls Tryd.prog 87 #[.pointer none] w fun e w' => e = .returned (.tuple #[]) ∧ w = w' := by
  go_enter Tryd.func87, Tryd.ntmps87
  go_wp2
  go_end0
  exact ⟨rfl, rfl⟩

theorem wrong_ptr (g : Nat) (s : ByteArray) (p : Nat) (bad : Bool) (w : World) (h : Rd 92 w g s p bad) :
    Calls Tryd.prog 87 #[.pointer (some ⟨g, 0, none⟩)] w fun e w' => e = .returned (.tuple #[]) ∧ Rd 92 w' g s p true ∧ Kept [g] w w' := by
  obtain ⟨h0, h1, h2⟩ := h.cells
  have hf := Var.free h 2
  have hr := h.setBad true
  have hk : Kept [g] w (w.setCell ⟨g, 2, none⟩ (.bool true)) := (Kept.refl _ _).setCell (.inl (by simp)) _
  go_enter Tryd.func87, Tryd.ntmps87
  go_wp2
  go_end0
  exact ⟨rfl, hr, hk⟩

theorem catch_idle (q : Addr) (w : World) :
    CallsD Tryd.prog 97 #[.pointer (some q)] .returning w fun e u' w' => e = .returned (.tuple #[]) ∧ u' = .returning ∧ w = w' := by
  have hta : ∀ w : World, (Instr.typeAssert .nilIface 20 40 true).run Tryd.prog w = .ok (.tuple #[.nilIface, .bool false]) w := fun _ => by kernel_rfl
  have hnn : ∀ w : World, (binOp BinOp.neq 20 .nilIface .nilIface).run Tryd.prog w = .ok (.bool false) w := fun _ => by kernel_rfl
  refine callsD_of_wpS Tryd.func97 rfl fun c₀ cs hu => ?_
  simp only [Tryd.ntmps97, List.size_toArray, List.length_cons, List.length_nil, Nat.reduceAdd, Nat.reduceSub, Array.replicate_succ, Array.replicate_zero, List.push_toArray, List.append_toArray, List.nil_append, List.cons_append]
  apply wpS_seq
  apply wpS_region
  simp [wpOpsS, go_sem, recoverD, hu, Exit.thenS]
  refine wpS_of_body_same hu ?_
  go_wp2
  go_end0
  exact ⟨rfl, rfl⟩

theorem catch_wrong_nil (q : Nat) (older : List PanicEntry) (w : World) (hq : Var w q 60 #[.pointer none]) :
    CallsD Tryd.prog 97 #[.pointer (some ⟨q, 0, none⟩)] (.panicking ({ v := wrongV, recovered := false } :: older)) w fun e u' w' =>
      e = .returned (.tuple #[]) ∧ u' = .panicking ({ v := wrongV, recovered := true } :: older) ∧ Below w.heap.size w w' := by
  have hta : ∀ w : World, (Instr.typeAssert wrongV 20 40 true).run Tryd.prog w = .ok (.tuple #[wrongV, .bool true]) w := fun w => run_typeAssert_hasB Tryd.underlying40 (by kernel_rfl) _ _ w
  refine callsD_of_wpS Tryd.func97 rfl fun c₀ cs hu => ?_
  simp only [Tryd.ntmps97, List.size_toArray, List.length_cons, List.length_nil, Nat.reduceAdd, Nat.reduceSub, Array.replicate_succ, Array.replicate_zero, List.push_toArray, List.append_toArray, List.nil_append, List.cons_append]
  apply wpS_seq
  apply wpS_region
  simp [wpOpsS, go_sem, recoverD, hu, Exit.thenS]
  refine wpS_of_body ?_
  go_wp2_with fail
  refine (is_wrong _).mono ?_
  rintro e w1 ⟨rfl, hb⟩
  have hc : w1.cell? ⟨q, 0, none⟩ = some (.pointer none) := (hq.below hb hq.lt).cell 0 rfl
  go_wp2_with fail
  refine (wrong_nil _).mono ?_
  rintro e w2 ⟨rfl, rfl⟩
  go_wp2
  go_end0
  exact ⟨rfl, hb⟩

theorem catch_wrong (q g : Nat) (s : ByteArray) (p : Nat) (bad : Bool) (older : List PanicEntry) (w : World) (hq : Var w q 60 #[.pointer (some ⟨g, 0, none⟩)]) (hr : Rd 92 w g s p bad) :
    CallsD Tryd.prog 97 #[.pointer (some ⟨q, 0, none⟩)] (.panicking ({ v := wrongV, recovered := false } :: older)) w fun e u' w' =>
      e = .returned (.tuple #[]) ∧ u' = .panicking ({ v := wrongV, recovered := true } :: older) ∧ Rd 92 w' g s p true ∧ Kept [g] w w' := by
  have hta : ∀ w : World, (Instr.typeAssert wrongV 20 40 true).run Tryd.prog w = .ok (.tuple #[wrongV, .bool true]) w := fun w => run_typeAssert_hasB Tryd.underlying40 (by kernel_rfl) _ _ w
  refine callsD_of_wpS Tryd.func97 rfl fun c₀ cs hu => ?_
  simp only [Tryd.ntmps97, List.size_toArray, List.length_cons, List.length_nil, Nat.reduceAdd, Nat.reduceSub, Array.replicate_succ, Array.replicate_zero, List.push_toArray, List.append_toArray, List.nil_append, List.cons_append]
  apply wpS_seq
  apply wpS_region
  simp [wpOpsS, go_sem, recoverD, hu, Exit.thenS]
  refine wpS_of_body ?_
  go_wp2_with fail
  refine (is_wrong _).mono ?_
  rintro e w1 ⟨rfl, hb⟩
  have hc : w1.cell? ⟨q, 0, none⟩ = some (.pointer (some ⟨g, 0, none⟩)) := (hq.below hb hq.lt).cell 0 rfl
  have hr1 : Rd 92 w1 g s p bad := Var.below hr hb (Var.lt hr)
  go_wp2_with fail
  refine (wrong_ptr g s p bad _ hr1).mono ?_
  rintro e w2 ⟨rfl, hr2, hk⟩
  go_wp2
  go_end0
  exact ⟨rfl, hr2, (Kept.of_below hb).trans hk⟩

/-- A panic of must's at read's door. -/
theorem door_wrong {R : Ending → World → Prop} {a : Act} {w : World} {q g : Nat} {s : ByteArray} {p : Nat} {bad : Bool} (hd : a.defers = [{ target := .fn (.func 97) #[.pointer (some ⟨q, 0, none⟩)], args := #[] }])
    (hq : Var w q 60 #[.pointer (some ⟨g, 0, none⟩)]) (hr : Rd 92 w g s p bad) (hR : ∀ w2, Rd 92 w2 g s p true → Kept [g] w w2 → R (.returned (.tuple #[])) w2) :
    bodyPostD Tryd.prog Tryd.f92 R (.panic [{ v := wrongV, recovered := false }]) a w := by
  simp only [bodyPostD, hd]
  refine leaves_cons (f := 97) (args := #[.pointer (some ⟨q, 0, none⟩)]) (by simp) (by simp [go_sem]) ?_
  refine (catch_wrong q g s p bad [] _ hq hr).mono ?_
  rintro e u' w2 ⟨rfl, rfl, hr2, hk2⟩
  simp [Leaves, settle, results, Tryd.results92, go_sem]
  exact hR w2 hr2 hk2
/-- Read's door where nothing panicked. -/
theorem door_idle {R : Ending → World → Prop} {a : Act} {w : World} {q : Nat} (hd : a.defers = [{ target := .fn (.func 97) #[.pointer (some ⟨q, 0, none⟩)], args := #[] }])
    (hR : R (.returned (.tuple #[])) w) : bodyPostD Tryd.prog Tryd.f92 R .normal a w := by
  simp only [bodyPostD, hd]
  refine leaves_cons (f := 97) (args := #[.pointer (some ⟨q, 0, none⟩)]) (by simp) (by simp [go_sem]) ?_
  refine (catch_idle ⟨q, 0, none⟩ _).mono ?_
  rintro e u' w2 ⟨rfl, rfl, rfl⟩
  simp [Leaves, settle, results, Tryd.results92, go_sem]
  exact hR

theorem mk_any : ∀ (fn : Fn) (first cap : Array Value) (w : World), (Instr.makeFunc fn first cap).run Tryd.prog w = .ok (.func fn first cap) w := fun _ _ _ _ => rfl

set_option maxRecDepth 100000 in
theorem read_nil (f : Value) (w : World) : Calls Tryd.prog 92 #[.pointer none, f] w fun e w' => e = .returned (.tuple #[]) ∧ Below w.heap.size w w' := by
  have hmf := mk_any
  have hb0 : Below w.heap.size w (w.alloc (.cells #[.pointer none] 60)) := (Below.refl _ _).alloc (Nat.le_refl _) _
  go_enter_defers Tryd.func92, Tryd.ntmps92
  go_wp2_with fail
  refine (must_no _).mono ?_
  rintro e w1 ⟨rfl, rfl⟩
  go_wp2
  refine leaves_cons (f := 97) (args := #[.pointer (some ⟨w.heap.size, 0, none⟩)]) (by simp) (by simp [go_sem]) ?_
  refine (catch_wrong_nil w.heap.size [] _ (Var.new _ _ _)).mono ?_
  rintro e u' w2 ⟨rfl, rfl, hb⟩
  have hb2 := hb0.trans (hb.mono (by simp))
  simp [Leaves, settle, results, Tryd.results92, go_sem]
  exact hb2

set_option maxRecDepth 100000 in
theorem read_bad (f : Value) (g : Nat) (s : ByteArray) (p : Nat) (w : World) (hr : Rd 92 w g s p true) :
    Calls Tryd.prog 92 #[.pointer (some ⟨g, 0, none⟩), f] w fun e w' => e = .returned (.tuple #[]) ∧ Rd 92 w' g s p true ∧ Kept [g] w w' := by
  have hmf := mk_any
  have hr0 := Var.alloc hr (.cells #[.pointer (some ⟨g, 0, none⟩)] 60)
  have hk0 := (Kept.refl [g] w).alloc (.cells #[.pointer (some ⟨g, 0, none⟩)] 60)
  have h2 := (Rd.cells hr0).2.2
  go_enter_defers Tryd.func92, Tryd.ntmps92
  go_wp2_with fail
  refine (must_no _).mono ?_
  rintro e w1 ⟨rfl, rfl⟩
  go_wp2
  refine leaves_cons (f := 97) (args := #[.pointer (some ⟨w.heap.size, 0, none⟩)]) (by simp) (by simp [go_sem]) ?_
  refine (catch_wrong w.heap.size g s p true [] _ (Var.new _ _ _) hr0).mono ?_
  rintro e u' w2 ⟨rfl, rfl, hr2, hk2⟩
  have hk := hk0.trans hk2
  simp [Leaves, settle, results, Tryd.results92, go_sem]
  exact ⟨hr2, hk⟩

theorem md_follows : Tryd.prog.follows .mixedOrders = true := by kernel_rfl

set_option maxRecDepth 100000 in
set_option maxHeartbeats 1000000 in
theorem read_end (f : Value) (g : Nat) (s : ByteArray) (p : Nat) (w : World) (hr : Rd 92 w g s p false) (hp : s.size ≤ p) :
    Calls Tryd.prog 92 #[.pointer (some ⟨g, 0, none⟩), f] w fun e w' => e = .returned (.tuple #[]) ∧ Rd 92 w' g s p true ∧ Kept [g] w w' := by
  have hmf := mk_any
  have hr0 := Var.alloc hr (.cells #[.pointer (some ⟨g, 0, none⟩)] 60)
  have hk0 := (Kept.refl [g] w).alloc (.cells #[.pointer (some ⟨g, 0, none⟩)] 60)
  obtain ⟨h0, h1, h2⟩ := Rd.cells hr0
  have hlt : decide (p < s.size) = false := by simp; omega
  go_enter_defers Tryd.func92, Tryd.ntmps92
  go_wp2_with fail
  refine (must_yes _).mono ?_
  rintro e w1 ⟨rfl, rfl⟩
  go_wp2_with fail
  refine wp_region_head 17 (by kernel_rfl) (by kernel_rfl) ?_
  simp only [List.take_succ_cons, List.take_zero, List.drop_succ_cons, List.drop_zero]
  repeat still_step
  refine wpStill_nil ?_
  go_wp2_with fail
  refine (must_no _).mono ?_
  rintro e w1 ⟨rfl, rfl⟩
  go_wp2
  refine leaves_cons (f := 97) (args := #[.pointer (some ⟨w.heap.size, 0, none⟩)]) (by simp) (by simp [go_sem]) ?_
  refine (catch_wrong w.heap.size g s p false [] _ ?_ ?_).mono ?_
  · exact Var.new w #[.pointer (some ⟨g, 0, none⟩)] 60
  · exact hr0
  rintro e u' w2 ⟨rfl, rfl, hr2, hk2⟩
  have hk := hk0.drew.trans hk2
  simp [Leaves, settle, results, Tryd.results92, go_sem]
  exact ⟨hr2, hk⟩

set_option maxRecDepth 100000 in
set_option maxHeartbeats 1000000 in
/-- The field's reading panics. -/
theorem read_no (F : FuncId) (caps : Array Value) (g : Nat) (s : ByteArray) (p : Nat) (w : World) (hr : Rd 92 w g s p false) (hp : p < s.size)
    (hcf : ∀ W, (callFunc F caps).run Tryd.prog W = .ok (.enter F caps) W)
    (hf : ∀ W, Below w.heap.size w W → Calls Tryd.prog F caps W fun e W' => e = .panicked [{ v := wrongV, recovered := false }] ∧ Below W.heap.size W W') :
    Calls Tryd.prog 92 #[.pointer (some ⟨g, 0, none⟩), .func (.func F) #[] caps] w fun e w' => e = .returned (.tuple #[]) ∧ Rd 92 w' g s p true ∧ Kept [g] w w' := by
  have hmf := mk_any
  have hr0 := Var.alloc hr (.cells #[.pointer (some ⟨g, 0, none⟩)] 60)
  have hk0 := (Kept.refl [g] w).alloc (.cells #[.pointer (some ⟨g, 0, none⟩)] 60)
  have hb0 : Below w.heap.size w (w.alloc (.cells #[.pointer (some ⟨g, 0, none⟩)] 60)) := (Below.refl _ _).alloc (Nat.le_refl _) _
  have hv0 := Var.new w #[.pointer (some ⟨g, 0, none⟩)] 60
  have hr0' : Var (w.alloc (.cells #[.pointer (some ⟨g, 0, none⟩)] 60)).drew.drew _ _ _ := hr0
  have hv0' : Var (w.alloc (.cells #[.pointer (some ⟨g, 0, none⟩)] 60)).drew.drew _ _ _ := hv0
  obtain ⟨h0, h1, h2⟩ := Rd.cells hr0
  have hlt : decide (p < s.size) = true := by simp; omega
  go_enter_defers Tryd.func92, Tryd.ntmps92
  go_wp2_with fail
  refine (must_yes _).mono ?_
  rintro e w1 ⟨rfl, rfl⟩
  go_wp2_with fail
  refine wp_region_head 17 (by kernel_rfl) (by kernel_rfl) ?_
  simp only [List.take_succ_cons, List.take_zero, List.drop_succ_cons, List.drop_zero]
  repeat still_step
  refine wpStill_nil ?_
  go_wp2_with fail
  refine (must_yes _).mono ?_
  rintro e w1 ⟨rfl, rfl⟩
  go_wp2_with fail
  refine wp_region_any (by kernel_rfl) ?_
  change wpAny _ _ _ _ _ _ _ (World.drew _)
  refine wpAny_ready (rs := [0, 1]) (by kernel_rfl) (by simp) ?_
  refine AllReady.cons rfl (fun K hK => ?_) (AllReady.cons rfl (fun K hK => ?_) AllReady.nil)
  · go_simp
    refine hK _ _ ?_
    clear hK K
    refine wpAny_ready (rs := [1]) (by kernel_rfl) (by simp) ?_
    refine AllReady.cons rfl (fun K hK => ?_) AllReady.nil
    go_simp
    refine hK _ _ ?_
    clear hK K
    refine wpAny_ready (rs := [2]) (by kernel_rfl) (by simp) ?_
    refine AllReady.cons rfl (fun K hK => ?_) AllReady.nil
    go_simp
    go_wp2_with fail
    refine (hf _ hb0.drew.drew).mono ?_
    rintro e W' ⟨rfl, hb⟩
    exact door_wrong rfl (Var.below hv0' hb (Var.lt hv0')) (Var.below hr0' hb (Var.lt hr0')) (fun w2 h1 h2 => ⟨rfl, h1, (hk0.drew.drew.trans (Kept.of_below hb)).trans h2⟩)
  · go_simp
    refine hK _ _ ?_
    clear hK K
    refine wpAny_ready (rs := [0, 2]) (by kernel_rfl) (by simp) ?_
    refine AllReady.cons rfl (fun K hK => ?_) (AllReady.cons rfl (fun K hK => ?_) AllReady.nil)
    · go_simp
      refine hK _ _ ?_
      clear hK K
      refine wpAny_ready (rs := [2]) (by kernel_rfl) (by simp) ?_
      refine AllReady.cons rfl (fun K hK => ?_) AllReady.nil
      go_simp
      go_wp2_with fail
      refine (hf _ hb0.drew.drew).mono ?_
      rintro e W' ⟨rfl, hb⟩
      exact door_wrong rfl (Var.below hv0' hb (Var.lt hv0')) (Var.below hr0' hb (Var.lt hr0')) (fun w2 h1 h2 => ⟨rfl, h1, (hk0.drew.drew.trans (Kept.of_below hb)).trans h2⟩)
    · go_simp
      go_wp2_with fail
      refine (hf _ hb0.drew.drew).mono ?_
      rintro e W' ⟨rfl, hb⟩
      exact door_wrong rfl (Var.below hv0' hb (Var.lt hv0')) (Var.below hr0' hb (Var.lt hr0')) (fun w2 h1 h2 => ⟨rfl, h1, (hk0.drew.drew.trans (Kept.of_below hb)).trans h2⟩)

set_option maxRecDepth 100000 in
set_option maxHeartbeats 1000000 in
/-- The field's reading hands back the place behind it. -/
theorem read_ok (F : FuncId) (caps : Array Value) (g : Nat) (s : ByteArray) (p bh nb : Nat) (T : TypeId) (v : Value) (w : World) (hr : Rd 92 w g s p false) (hp : p < s.size) (hng : nb ≠ g) (hnn : w.heap.size ∉ [nb])
    (hcf : ∀ W, (callFunc F caps).run Tryd.prog W = .ok (.enter F caps) W)
    (hf : ∀ W, Below w.heap.size w W → Calls Tryd.prog F caps W fun e W' => e = .returned (.int .i64 (bh : Int)) ∧ Rd 92 W' g s p false ∧ Var W' nb T #[v] ∧ Kept [nb] W W') :
    Calls Tryd.prog 92 #[.pointer (some ⟨g, 0, none⟩), .func (.func F) #[] caps] w fun e w' => e = .returned (.tuple #[]) ∧ Rd 92 w' g s bh false ∧ Var w' nb T #[v] ∧ Kept [g, nb] w w' := by
  have hmf := mk_any
  have hr0 := Var.alloc hr (.cells #[.pointer (some ⟨g, 0, none⟩)] 60)
  have hk0 := (Kept.refl [g] w).alloc (.cells #[.pointer (some ⟨g, 0, none⟩)] 60)
  have hb0 : Below w.heap.size w (w.alloc (.cells #[.pointer (some ⟨g, 0, none⟩)] 60)) := (Below.refl _ _).alloc (Nat.le_refl _) _
  have hv0 := Var.new w #[.pointer (some ⟨g, 0, none⟩)] 60
  have hr0' : Var (w.alloc (.cells #[.pointer (some ⟨g, 0, none⟩)] 60)).drew.drew _ _ _ := hr0
  have hv0' : Var (w.alloc (.cells #[.pointer (some ⟨g, 0, none⟩)] 60)).drew.drew _ _ _ := hv0
  obtain ⟨h0, h1, h2⟩ := Rd.cells hr0
  have hlt : decide (p < s.size) = true := by simp; omega
  have hk0' := (Kept.refl [g, nb] w).alloc (.cells #[.pointer (some ⟨g, 0, none⟩)] 60)
  go_enter_defers Tryd.func92, Tryd.ntmps92
  go_wp2_with fail
  refine (must_yes _).mono ?_
  rintro e w1 ⟨rfl, rfl⟩
  go_wp2_with fail
  refine wp_region_head 17 (by kernel_rfl) (by kernel_rfl) ?_
  simp only [List.take_succ_cons, List.take_zero, List.drop_succ_cons, List.drop_zero]
  repeat still_step
  refine wpStill_nil ?_
  go_wp2_with fail
  refine (must_yes _).mono ?_
  rintro e w1 ⟨rfl, rfl⟩
  go_wp2_with fail
  refine wp_region_any (by kernel_rfl) ?_
  change wpAny _ _ _ _ _ _ _ (World.drew _)
  refine wpAny_ready (rs := [0, 1]) (by kernel_rfl) (by simp) ?_
  refine AllReady.cons rfl (fun K hK => ?_) (AllReady.cons rfl (fun K hK => ?_) AllReady.nil)
  · go_simp
    refine hK _ _ ?_
    clear hK K
    refine wpAny_ready (rs := [1]) (by kernel_rfl) (by simp) ?_
    refine AllReady.cons rfl (fun K hK => ?_) AllReady.nil
    go_simp
    refine hK _ _ ?_
    clear hK K
    refine wpAny_ready (rs := [2]) (by kernel_rfl) (by simp) ?_
    refine AllReady.cons rfl (fun K hK => ?_) AllReady.nil
    go_simp
    go_wp2_with fail
    refine (hf _ hb0.drew.drew).mono ?_
    rintro e W' ⟨rfl, hrd, hvn, hkn⟩
    have hvb := Var.kept hv0' hkn hnn
    have hc0 : W'.cell? ⟨w.heap.size, 0, none⟩ = some (.pointer (some ⟨g, 0, none⟩)) := Var.cell hvb 0 rfl
    obtain ⟨k0, k1, k2⟩ := Rd.cells hrd
    have hf1 := Var.free hrd 1
    have hrs := hrd.setAt bh
    have hvs := Var.other hvn 1 (.int .i64 (bh : Int)) hng
    have hks := Kept.setCell ((hk0'.drew.drew).then hkn (by intro x hx; exact .inl (by simp at hx ⊢; exact .inr hx))) (p := ⟨g, 1, none⟩) (.inl (by simp)) (.int .i64 (bh : Int))
    clear h0 h1 h2 k0 k2 hr0 hv0 hr0' hv0'
    go_wp2
    refine wpAny_ready (rs := [3]) (by kernel_rfl) (by simp) ?_
    refine AllReady.cons rfl (fun K hK => ?_) AllReady.nil
    go_simp
    refine hK _ _ ?_
    clear hK K
    refine wpAny_ready (rs := [4]) (by kernel_rfl) (by simp) ?_
    refine AllReady.cons rfl (fun K hK => ?_) AllReady.nil
    go_simp
    refine hK _ _ ?_
    clear hK K
    refine wpAny_ready (rs := [5]) (by kernel_rfl) (by simp) ?_
    refine AllReady.cons rfl (fun K hK => ?_) AllReady.nil
    go_simp
    refine hK _ _ ?_
    clear hK K
    refine wpAny_done (by kernel_rfl) ?_ _
    exact door_idle rfl ⟨rfl, hrs, hvs, hks⟩
  · go_simp
    refine hK _ _ ?_
    clear hK K
    refine wpAny_ready (rs := [0, 2]) (by kernel_rfl) (by simp) ?_
    refine AllReady.cons rfl (fun K hK => ?_) (AllReady.cons rfl (fun K hK => ?_) AllReady.nil)
    · go_simp
      refine hK _ _ ?_
      clear hK K
      refine wpAny_ready (rs := [2]) (by kernel_rfl) (by simp) ?_
      refine AllReady.cons rfl (fun K hK => ?_) AllReady.nil
      go_simp
      go_wp2_with fail
      refine (hf _ hb0.drew.drew).mono ?_
      rintro e W' ⟨rfl, hrd, hvn, hkn⟩
      have hvb := Var.kept hv0' hkn hnn
      have hc0 : W'.cell? ⟨w.heap.size, 0, none⟩ = some (.pointer (some ⟨g, 0, none⟩)) := Var.cell hvb 0 rfl
      obtain ⟨k0, k1, k2⟩ := Rd.cells hrd
      have hf1 := Var.free hrd 1
      have hrs := hrd.setAt bh
      have hvs := Var.other hvn 1 (.int .i64 (bh : Int)) hng
      have hks := Kept.setCell ((hk0'.drew.drew).then hkn (by intro x hx; exact .inl (by simp at hx ⊢; exact .inr hx))) (p := ⟨g, 1, none⟩) (.inl (by simp)) (.int .i64 (bh : Int))
      clear h0 h1 h2 k0 k2 hr0 hv0 hr0' hv0'
      go_wp2
      refine wpAny_ready (rs := [3]) (by kernel_rfl) (by simp) ?_
      refine AllReady.cons rfl (fun K hK => ?_) AllReady.nil
      go_simp
      refine hK _ _ ?_
      clear hK K
      refine wpAny_ready (rs := [4]) (by kernel_rfl) (by simp) ?_
      refine AllReady.cons rfl (fun K hK => ?_) AllReady.nil
      go_simp
      refine hK _ _ ?_
      clear hK K
      refine wpAny_ready (rs := [5]) (by kernel_rfl) (by simp) ?_
      refine AllReady.cons rfl (fun K hK => ?_) AllReady.nil
      go_simp
      refine hK _ _ ?_
      clear hK K
      refine wpAny_done (by kernel_rfl) ?_ _
      exact door_idle rfl ⟨rfl, hrs, hvs, hks⟩
    · go_simp
      go_wp2_with fail
      refine (hf _ hb0.drew.drew).mono ?_
      rintro e W' ⟨rfl, hrd, hvn, hkn⟩
      have hvb := Var.kept hv0' hkn hnn
      have hc0 : W'.cell? ⟨w.heap.size, 0, none⟩ = some (.pointer (some ⟨g, 0, none⟩)) := Var.cell hvb 0 rfl
      obtain ⟨k0, k1, k2⟩ := Rd.cells hrd
      have hf1 := Var.free hrd 1
      have hrs := hrd.setAt bh
      have hvs := Var.other hvn 1 (.int .i64 (bh : Int)) hng
      have hks := Kept.setCell ((hk0'.drew.drew).then hkn (by intro x hx; exact .inl (by simp at hx ⊢; exact .inr hx))) (p := ⟨g, 1, none⟩) (.inl (by simp)) (.int .i64 (bh : Int))
      clear h0 h1 h2 k0 k2 hr0 hv0 hr0' hv0'
      go_wp2
      refine wpAny_ready (rs := [0]) (by kernel_rfl) (by simp) ?_
      refine AllReady.cons rfl (fun K hK => ?_) AllReady.nil
      go_simp
      refine hK _ _ ?_
      clear hK K
      refine wpAny_ready (rs := [3]) (by kernel_rfl) (by simp) ?_
      refine AllReady.cons rfl (fun K hK => ?_) AllReady.nil
      go_simp
      refine hK _ _ ?_
      clear hK K
      refine wpAny_ready (rs := [4]) (by kernel_rfl) (by simp) ?_
      refine AllReady.cons rfl (fun K hK => ?_) AllReady.nil
      go_simp
      refine hK _ _ ?_
      clear hK K
      refine wpAny_ready (rs := [5]) (by kernel_rfl) (by simp) ?_
      refine AllReady.cons rfl (fun K hK => ?_) AllReady.nil
      go_simp
      refine hK _ _ ?_
      clear hK K
      refine wpAny_done (by kernel_rfl) ?_ _
      exact door_idle rfl ⟨rfl, hrs, hvs, hks⟩

end Go.Proofs.YtplpagnnlggfgaaDoor
