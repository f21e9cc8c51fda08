/-
  The contract of the law's 'wakes'. Condition: the one package variable of errors holds what the program's text lays (Glob).
-/
import Derived.Test.YtplpagnnlggfgaaDoorRepMay
import Derived.Test.YtplpagnnlggfgaaDoorRepGet
import Derived.Test.YtplpagnnlggfgaaDoorRepAlike
namespace Go.Proofs.YtplpagnnlggfgaaDoor
open Go.RowKit

def wkA : Rp := ⟨1, 0, 3, 2, 0, []⟩
def wkY : Rp := ⟨4, 100, 0, 0, 0, []⟩
theorem wkA_ok : RpOk wkA := by
  refine ⟨⟨by simp [wkA], by simp [wkA]⟩, ⟨by simp [wkA], by simp [wkA]⟩, fun k hk => ?_⟩
  match k, hk with
  | 0, _ => simp [hasF, wkA, FOk, Between]
  | 1, _ => simp [hasF, wkA, FOk, Between]
  | 2, _ => simp [hasF, wkA, FNo]
  | 3, _ => simp [hasF, wkA, FNo]
theorem wkY_ok : RpOk wkY := by
  refine ⟨⟨by simp [wkY], by simp [wkY]⟩, ⟨by simp [wkY], by simp [wkY]⟩, fun k hk => ?_⟩
  match k, hk with
  | 0, _ => simp [hasF, wkY, FNo]
  | 1, _ => simp [hasF, wkY, FNo]
  | 2, _ => simp [hasF, wkY, FNo]
  | 3, _ => simp [hasF, wkY, FNo]
theorem wkA_enc : renc wkA = [1, 0, 3, 2] := by
  simp only [renc, fencs, hasF, fenc, wkA]
  rw [show (1 : Int).toNat = 1 from rfl, show (0 : Int).toNat = 0 from rfl, show (3 : Int).toNat = 3 from rfl, show (2 : Int).toNat = 2 from rfl, VP.enc_small (by decide), VP.enc_small (by decide), VP.enc_small (by decide), VP.enc_small (by decide)]
  rfl
theorem wkY_enc : renc wkY = [4, 100] := by
  simp only [renc, fencs, hasF, fenc, wkY]
  rw [show (4 : Int).toNat = 4 from rfl, show (100 : Int).toNat = 100 from rfl, VP.enc_small (by decide), VP.enc_small (by decide)]
  rfl
theorem wkY_read : RdIs ⟨([4, 100] : List UInt8).toArray⟩ wkY 0 := rdIs_ok wkY_ok (by rw [bytesOf_mk, wkY_enc])
theorem wkA_fit : RpFit wkA := ⟨by simp [wkA], by simp [wkA], by simp [wkA], by simp [wkA], by simp [wkA]⟩

set_option maxRecDepth 100000 in
set_option maxHeartbeats 2000000 in
theorem pwakes_any (w : World) (hG : Glob w) : Calls Tryd.prog 7 #[] w fun e w' => e = .returned (.bool true) ∧ Below w.heap.size w w' := by
  have e1 : (({ data := #[1, 0, 3, 2] } : ByteArray) == { data := #[1, 0, 3, 2] }) = true := by decide
  have HB := pbytes_any wkA none 0 0 0 true w hG (bare_rin _ _ rfl) (Nat.zero_le _) wkA_fit (fun r hr => by cases hr) ⟨fun _ => wkA_ok, fun _ => rfl⟩
  simp only [rpvals, wkA] at HB
  have HB := Lib.hid HB
  go_enter Tryd.func7, Tryd.ntmps7
  go_wp2_with fail
  refine HB.out.mono ?_
  rintro e W1 ⟨b1, ⟨-, A1, c1, l1, rfl, hl1, hs1, hc1⟩ | ⟨h, -⟩⟩
  rotate_left
  · cases h
  have g1 := hG.next b1
  have hk := wkA_enc
  unfold wkA at hk
  rw [hk] at hs1 hl1
  have HL1 := Lib.hid hl1
  clear hk hl1 HB
  go_upto_region 2 with fail
  obtain ⟨x, hx⟩ : ∃ x, x = W1.heap.size := ⟨_, rfl⟩
  obtain ⟨W2, hW2⟩ : ∃ W2, W2 = W1.alloc (.cells #[.int .u8 4, .int .u8 100] 5) := ⟨_, rfl⟩
  have b2 : Below W1.heap.size W1 W2 := by rw [hW2]; exact below_new _
  have s2 : Seen W2 (x + 1) (some ⟨x, 0, none⟩) (cells [4, 100]) := by rw [hW2, hx]; exact Seen.new W1 (cells [4, 100]) 5
  have hR := pget_any (some ⟨x, 0, none⟩) 2 2 (x + 1) [4, 100] wkY 0 W2 (g1.next b2) wkY_read s2 (by rw [hW2, hx]; simp) rfl (by omega)
  have HR := Lib.hid hR
  have HW2 := Lib.hid hW2
  have HX := Lib.hid hx
  clear hR hW2 hx s2
  go_wp2_with fail
  rw [← HW2.out, ← HX.out]
  refine HR.out.mono ?_
  rintro e W3 ⟨b3, A3, n3, c3, rfl, ho3⟩
  have b13 := b2.trans (b3.mono b2.size)
  have hs3 := (hs1.below b13).up b13.size
  have bb3 := b1.trans (b13.mono b1.size)
  simp only [rpvals, wkY]
  clear HR HW2 HX ho3 b2 b3 b13 hs1 hc1
  go_upto_region 3 with fail
  obtain ⟨W4, hW4⟩ : ∃ W4, W4 = W3.alloc (.cells #[.int .i8 4, .int .i64 100, .int .i64 0, .int .i64 0, .int .i64 0, .slice A3 n3 c3] 26) := ⟨_, rfl⟩
  obtain ⟨q, hq⟩ : ∃ q, q = W3.heap.size := ⟨_, rfl⟩
  have v4 : Var W4 q 26 #[.int .i8 4, .int .i64 100, .int .i64 0, .int .i64 0, .int .i64 0, .slice A3 n3 c3] := by rw [hW4, hq]; exact Var.new _ _ _
  have b4 : Below W3.heap.size W3 W4 := by rw [hW4]; exact below_new _
  have hs4 := (hs3.below b4).up b4.size
  have bb4 := bb3.trans (b4.mono bb3.size)
  rw [← hW4, ← hq]
  have hst := str_now (P := Tryd.prog) hs4 27 9 5 l1 c1 HL1.out Tryd.underlying27 Tryd.underlying5 Tryd.underlying9
  have cq := v4.cell 1 rfl
  have zq := v4.lt
  have hA := alike_any ⟨7, 0, 0, 0, 3, []⟩ ⟨7, 0, 0, 0, 9, []⟩ none none 0 0 0 0 0 true W4 (bare_rin _ _ rfl) (bare_rin _ _ rfl) (Nat.zero_le _) (by omega) (by omega) ⟨fun _ => by simp [lev, levI], fun _ => rfl⟩
  simp only [rpvals] at hA
  have HA := Lib.hid hA
  clear hA hW4 hq hs3 hs4 b4 bb3
  go_wp2_with fail
  refine HA.out.mono ?_
  rintro e W5 ⟨rfl, b5⟩
  have bb5 := bb4.trans (b5.mono bb4.size)
  clear hst cq zq
  go_wp2
  go_ret
  exact ⟨rfl, bb5⟩
end Go.Proofs.YtplpagnnlggfgaaDoor
