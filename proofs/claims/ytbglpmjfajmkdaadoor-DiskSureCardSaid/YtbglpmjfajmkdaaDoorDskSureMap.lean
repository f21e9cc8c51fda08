/-
  The law DiskSure's map in memory: what it remembers of each name. No conditions.
-/
import Derived.Test.YtbglpmjfajmkdaaDoorDskDoes
import Derived.Test.YtbglpmjfajmkdaaDoorDskSurePlain
import Derived.Maps.RangeWalk
import Derived.Maps.Views
import Derived.StringKeys
import Derived.Sort.MapsRangeIn
import Derived.StillTailTactics
import Derived.Carry
namespace Go.Proofs.YtbglpmjfajmkdaaDoor
open Go.RowKit DP

theorem sure_law : Go.Maps.Keyed Tryd.prog 9 := Go.Maps.string_keyed Tryd.underlying9
/-- What the map holds at a name: a file that has bytes alone. -/
def sureV (b : ByteArray) : Value := .agg #[.string { data := #[] }, .string b, .int .i64 0]
def sureL (l : List Value) : Option (DataW Unit × List MemPlace) :=
  match l with
  | [.string a, .string b, .int .i64 s] => if a.size = 0 ∧ s = 0 then some (.lit (.string b.data.toList), []) else none
  | _ => none
def sureR (v : Value) : Option (DataW Unit × List MemPlace) :=
  match v with
  | .agg cs => sureL cs.toList
  | _ => none
theorem sureR_mk (b : ByteArray) : sureR (sureV b) = some (.lit (.string b.data.toList), []) := rfl
theorem sureR_inv {v : Value} {y : DataW Unit × List MemPlace} (h : sureR v = some y) : ∃ b, v = sureV b := by
  cases v with
  | agg cs =>
    change sureL cs.toList = some y at h
    unfold sureL at h
    split at h
    · rename_i a b s he
      split at h
      · rename_i hh
        obtain ⟨h1, rfl⟩ := hh
        obtain rfl := none_of h1
        have : cs = #[.string { data := #[] }, .string b, .int .i64 0] := Array.toList_inj.1 he
        rw [this]
        exact ⟨b, rfl⟩
      · cases h
    · cases h
  | _ => cases h
theorem sure_bytes {a b : ByteArray} (h : (DataW.lit (.string a.data.toList) : DataW Unit) = .lit (.string b.data.toList)) : a = b := by
  injection h with h
  injection h with h
  apply ByteArray.ext
  exact Array.toList_inj.1 h
theorem sure_key {x : ByteArray} {kl : Lit} (h : keyOf Tryd.prog 9 (.string x) = some kl) : kl = .string x.data.toList := by
  have hk := Tryd.underlying9
  simp [keyOf, hk, mapKey] at h
  exact h.2.symm

/-- The map's datum says σ. -/
def Says (D : DataW Unit) (σ : ByteArray → ByteArray) : Prop := ∀ n : ByteArray, D.atKey (.string n.data.toList) (.lit (.string [])) = .lit (.string (σ n).data.toList)
theorem says_put {D : DataW Unit} {σ : ByteArray → ByteArray} (hD : Go.Maps.IsMap D) (h : Says D σ) (n v : ByteArray) : Says (D.put (.string n.data.toList) (.lit (.string v.data.toList))) (setAt σ n v) := fun m => by
  by_cases hm : m = n
  · subst hm
    rw [setAt_same]
    exact Go.Maps.atKey_put_same (k := .string m.data.toList) hD trivial _ _
  · rw [setAt_other σ v hm, ← h m]
    refine Go.Maps.atKey_put_other (fun e => hm ?_) _ _
    injection e with e
    apply ByteArray.ext
    exact Array.toList_inj.1 e
/-- Block b is the map. -/
def Mp (W : World) (b n : Nat) (σ : ByteArray → ByteArray) : Prop := ∃ D : DataW Unit, W.ownsMap Tryd.prog 9 sureR b n D ∧ Says D σ
section
variable {W W' : World} {b n : Nat} {σ : ByteArray → ByteArray}
theorem Mp.lt (h : Mp W b n σ) : b < W.heap.size := by obtain ⟨D, h, _⟩ := h; exact h.lt
theorem Mp.of (h : Mp W b n σ) (e : W'.heap[b]? = W.heap[b]?) : Mp W' b n σ := by
  obtain ⟨D, ⟨es, clock, hb, r⟩, hs⟩ := h
  exact ⟨D, ⟨es, clock, e.trans hb, r⟩, hs⟩
theorem Mp.below (h : Mp W b n σ) (k : Below W.heap.size W W') : Mp W' b n σ := h.of (k.block b h.lt)
theorem Mp.set (h : Mp W b n σ) {g : Nat} (i : Nat) (u : Value) (hne : b ≠ g) : Mp (W.setCell ⟨g, i, none⟩ u) b n σ := h.of (Below.heap_setCell _ _ _ _ hne)
theorem Mp.set4 (h : Mp W b n σ) {g : Nat} (a b' c d : Value) (hne : b ≠ g) : Mp ((((W.setCell ⟨g, 0, none⟩ a).setCell ⟨g, 1, none⟩ b').setCell ⟨g, 2, none⟩ c).setCell ⟨g, 3, none⟩ d) b n σ :=
  (((h.set 0 a hne).set 1 b' hne).set 2 c hne).set 3 d hne
theorem Mp.made (W : World) : Mp (W.alloc (.map #[] 0)) W.heap.size 0 (fun _ => none_) :=
  ⟨.map [], World.ownsMap_made W _ _ _, fun _ => rfl⟩
set_option maxRecDepth 100000 in
theorem Mp.lookup (h : Mp W b n σ) (x : ByteArray) (hx : x.size ≤ maxLen) : (Instr.lookup 54 (.map (some b)) (.string x) false).run Tryd.prog W = .ok (.agg #[.string { data := #[] }, .string (σ x), .int .i64 0]) W := by
  obtain ⟨D, hown, hs⟩ := h
  have hz : (zeroValue 41).run Tryd.prog W = .ok (sureV none_) W := by kernel_rfl
  obtain ⟨v, ps, hrun, hv⟩ := hown.lookup sure_law Tryd.underlying54 hz (sureR_mk none_) (Go.WideMaps.keyOf_string_mk Tryd.underlying9 hx)
  obtain ⟨c, rfl⟩ := sureR_inv hv
  rw [sureR_mk] at hv
  injection hv with hv
  injection hv with hv _
  have := hs x
  have he : (DataW.lit (.string (none_.data.toList)) : DataW Unit) = .lit (.string []) := rfl
  rw [he, this] at hv
  rw [← sure_bytes hv]
  exact hrun
/-- Files do not lie in the map. -/
theorem seen_map {B : Nat} {A : Option Addr} {fs : List Fl} (h : Seen W B A (fcells fs)) (hm : Mp W b n σ) : fcells fs ≠ [] → ∀ b' off, A = some ⟨b', off, none⟩ → b' ≠ b := by
  intro hx b' off hA hbg
  subst hbg
  obtain ⟨D, ⟨es, clock, hb, _⟩, _⟩ := hm
  cases fs with
  | nil => exact hx rfl
  | cons f r =>
    obtain ⟨b2, off2, hA2, _, hc⟩ := h hx
    rw [hA] at hA2
    injection hA2 with hA2
    injection hA2 with e1 e2 _
    subst e1 e2
    have h0 := hc 0 (.string f.n) (by simp [fcells])
    unfold World.cell? at h0
    rw [hb] at h0
    cases h0
/-- Behind a store into the map. -/
theorem seen_grown {B : Nat} {A : Option Addr} {fs : List Fl} (h : Seen W B A (fcells fs)) (hm : Mp W b n σ) (hg : W.grownBy W' (some b)) : Seen W' B A (fcells fs) := by
  intro hx
  have hne := seen_map h hm hx
  obtain ⟨b', off, hA, hb, hc⟩ := h hx
  refine ⟨b', off, hA, hb, fun j u hu => ?_⟩
  exact hg.cell (hc j u hu) (by intro e; injection e with e; exact hne b' off hA e)
theorem var_grown {g T : Nat} {cs : Array Value} (h : Var W g T cs) (hg : W.grownBy W' (some b)) (hne : g ≠ b) : Var W' g T cs :=
  (hg.block g h.lt (by intro e; injection e with e; exact hne e)).trans h
end

/-- What the law has: the disk, the map, the script. -/
structure Su (g5 gm : Nat) (fs : List Fl) (cap left : Int) (down : Bool) (A1 : Option Addr) (m1 c1 : Nat) (σ : ByteArray → ByteArray) (n : Nat) (S : Option Addr) (l : List AcM) (w W : World) : Prop where
  x : Var W g5 24 #[.slice A1 m1 c1, .int .i64 cap, .int .i64 left, .bool down]
  sx : Seen W W.heap.size A1 (fcells fs)
  mp : Mp W gm n σ
  sc : Script W w.heap.size S l
  b : Below w.heap.size w W
section
variable {g5 gm : Nat} {fs : List Fl} {cap left : Int} {down : Bool} {A1 : Option Addr} {m1 c1 : Nat} {σ σ' : ByteArray → ByteArray} {n n' : Nat} {S : Option Addr} {l : List AcM} {w W W' : World}
theorem Su.next (h : Su g5 gm fs cap left down A1 m1 c1 σ n S l w W) (k : Below W.heap.size W W') : Su g5 gm fs cap left down A1 m1 c1 σ n S l w W' :=
  ⟨h.x.below k h.x.lt, (h.sx.below k).up k.size, h.mp.below k, h.sc.below (k.mono h.b.size), h.b.trans (k.mono h.b.size)⟩
/-- Another disk. -/
theorem Su.setd (h : Su g5 gm fs cap left down A1 m1 c1 σ n S l w W) (n1 : gm ≠ g5) (hg : w.heap.size ≤ g5) {fs' : List Fl} {cap' left' : Int} {down' : Bool} {A2 : Option Addr} {m2 c2 : Nat} (hs : Seen W W.heap.size A2 (fcells fs')) :
    Su g5 gm fs' cap' left' down' A2 m2 c2 σ n S l w ((((W.setCell ⟨g5, 0, none⟩ (.slice A2 m2 c2)).setCell ⟨g5, 1, none⟩ (.int .i64 cap')).setCell ⟨g5, 2, none⟩ (.int .i64 left')).setCell ⟨g5, 3, none⟩ (.bool down')) :=
  have hb : Below w.heap.size W ((((W.setCell ⟨g5, 0, none⟩ (.slice A2 m2 c2)).setCell ⟨g5, 1, none⟩ (.int .i64 cap')).setCell ⟨g5, 2, none⟩ (.int .i64 left')).setCell ⟨g5, 3, none⟩ (.bool down')) := set4_below hg
  ⟨set4_var h.x, (seen4 hs h.x disk_noText).up (by simp), h.mp.set4 _ _ _ _ n1, h.sc.below hb, h.b.trans hb⟩
/-- A store into the map. -/
theorem Su.putm (h : Su g5 gm fs cap left down A1 m1 c1 σ n S l w W) (n1 : g5 ≠ gm) (hg : w.heap.size ≤ gm) (hgr : W.grownBy W' (some gm)) (hm : Mp W' gm n' σ') : Su g5 gm fs cap left down A1 m1 c1 σ' n' S l w W' :=
  have hb : Below w.heap.size W W' := grown_below hgr h.b.size (fun g e => by injection e with e; omega)
  ⟨var_grown h.x hgr n1, (seen_grown h.sx h.mp hgr).up hgr.size, hm, h.sc.below hb, h.b.trans hb⟩
end
end Go.Proofs.YtbglpmjfajmkdaaDoor
