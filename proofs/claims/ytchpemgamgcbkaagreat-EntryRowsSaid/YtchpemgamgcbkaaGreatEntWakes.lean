/-
  The law's 'wakes' of entry: whatever the world, it returns true and turns nothing that was there. No conditions.
-/
import Derived.Test.YtchpemgamgcbkaaGreatEntRead
namespace Go.Proofs.YtchpemgamgcbkaaGreat
open Go.RowKit

theorem wk_cut : EBytesIs (cutE 300) ⟨#[2, 172, 2]⟩ 0 := by
  have h : En.enc (cutE 300) = [2, 172, 2] := by
    simp only [En.enc, En.body, cutE, if_true, Int.reduceEq, if_false]
    rw [show (2 : Int).toNat = 2 from rfl, show (300 : Int).toNat = 300 from rfl, VP.enc_small (by decide), VP.enc_great (by decide), VP.enc_small (by decide)]
    rfl
  exact .inl ⟨.cut _ (by omega), by rw [h], rfl⟩
theorem wk_mark : EBytesIs (markE 3 0 true) ⟨#[1, 3, 0, 1]⟩ 0 := by
  have h : En.enc (markE 3 0 true) = [1, 3, 0, 1] := by
    simp only [En.enc, En.body, markE, if_true, Int.reduceEq, if_false]
    rw [show (1 : Int).toNat = 1 from rfl, show (3 : Int).toNat = 3 from rfl, show (0 : Int).toNat = 0 from rfl, VP.enc_small (by decide), VP.enc_small (by decide), VP.enc_small (by decide)]
    rfl
  exact .inl ⟨.mark _ _ _ ⟨by omega, by omega⟩, by rw [h], rfl⟩
theorem wk_read : EReadIs ⟨#[2, 172, 2]⟩ (cutE 300) 0 := by
  rcases wk_cut with ⟨h1, h2, _⟩ | ⟨_, _, h⟩
  · exact .inl ⟨by rw [h2, bytesOf_mk], h1, rfl⟩
  · cases h
theorem bare_ein (w : World) (B : Nat) {x : En} (hb : x.b.rs = []) (hp : x.pd.sn = []) (hk : x.row.k.size ≤ 16 ∧ x.row.v.size ≤ 16) : EIn w B x none 0 0 none 0 0 :=
  ⟨by rw [hb]; rfl, by rw [hb]; exact Seen.nil _ _ _, Nat.le_refl _, by omega, (by rw [hb]; intro y hy; cases hy), by omega, ⟨by rw [hp]; rfl, by rw [hp]; exact Seen.nil _ _ _, Nat.le_refl _, by omega⟩⟩

set_option maxRecDepth 100000 in
set_option maxHeartbeats 1000000 in
theorem wakes_any (w : World) : Calls Tryz.prog 7 #[] w fun e w' => e = .returned (.bool true) ∧ Below w.heap.size w w' := by
  have e1 : (({ data := #[2, 172, 2] } : ByteArray) == { data := #[2, 172, 2] }) = true := by decide
  have e2 : (({ data := #[1, 3, 0, 1] } : ByteArray) == { data := #[1, 3, 0, 1] }) = true := by decide
  go_enter Tryz.func7, Tryz.ntmps7
  go_wp2_with fail
  refine (ebytes_all (cutE 300) none none 0 0 0 0 0 _ 0 w wk_cut (bare_ein _ _ rfl rfl ⟨by simp [cutE, noRw, ByteArray.size], by simp [cutE, noRw, ByteArray.size]⟩) (Nat.zero_le _)).mono ?_
  rintro e W1 ⟨rfl, b1⟩
  go_wp2_with fail
  refine (ebytes_all (markE 3 0 true) none none 0 0 0 0 0 _ 0 W1 wk_mark (bare_ein _ _ rfl rfl ⟨by simp [markE, noRw, ByteArray.size], by simp [markE, noRw, ByteArray.size]⟩) (Nat.zero_le _)).mono ?_
  rintro e W2 ⟨rfl, hb2⟩
  have b2 := b1.trans (hb2.mono b1.size)
  clear hb2 b1
  go_wp2_with fail
  refine (eread_any _ (cutE 300) 0 W2 wk_read (by simp [ByteArray.size])).mono ?_
  rintro e W3 ⟨A, n, c, D, m, d, rfl, -, hb3⟩
  have b3 := b2.trans (hb3.mono b2.size)
  clear hb3 b2
  simp only [evals, cutE, noBt, noRw, noPd]
  go_wp2_with (refine wpList_store_var rfl _ _ rfl rfl rfl (Var.new W3 #[.int .i8 0, .int .i64 0, .int .i64 0, .int .i64 0, .bool false, .slice none 0 0, .bool false, .int .i64 0, .int .i64 0, .int .i64 0, .int .i64 0, .int .i64 0, .string ⟨#[]⟩, .string ⟨#[]⟩, .int .i64 0, .int .i64 0, .int .i64 0, .slice none 0 0] 32) rfl (by kernel_rfl) (by simp [Value.oneCell']) ?_; intro W4 v4 o4; have c0 := v4.cell 0 rfl; have c8 := v4.cell 8 rfl; have z4 := v4.lt; have b4 := Only.below (b3.alloc b3.size _) o4 b3.size)
  go_ret
  exact ⟨rfl, b4⟩
end Go.Proofs.YtchpemgamgcbkaaGreat
