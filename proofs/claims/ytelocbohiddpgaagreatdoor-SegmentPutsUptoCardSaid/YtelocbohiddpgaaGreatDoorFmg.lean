/- Layer 11: frame.Put, walked. -/
import Derived.Test.YtelocbohiddpgaaGreatDoorFmf
set_option linter.unusedSimpArgs false
set_option linter.unusedVariables false
namespace Go.Proofs.YtelocbohiddpgaaGreatDoor.Crc
open Go Go.RowKit Gm
attribute [local go_sem ↓] Go.wp_at_zero Go.wp_at_succ

def putE (L : List UInt8) : Int := if L.length = 0 then 1 else if 2048 < L.length then 3 else 0
def putB (L : List UInt8) : List UInt8 := if mayR L then frm L else []
/-- What a Put leaves. -/
def PutR (L : List UInt8) (w : World) (e : Ending) (w' : World) : Prop := ∃ v, e = .returned (.tuple #[v, .int .i64 (putE L)]) ∧ OwnB w' w.heap.size v (putB L) ∧ Below w.heap.size w w'
theorem put_none {L : List UInt8} (h : L.length = 0) : putE L = 1 ∧ putB L = [] := by
  refine ⟨by unfold putE; rw [if_pos h], ?_⟩
  have : mayR L = false := by unfold mayR; simp [h]
  unfold putB; rw [this]; rfl
theorem put_long {L : List UInt8} (h : 2048 < L.length) : putE L = 3 ∧ putB L = [] := by
  refine ⟨by unfold putE; rw [if_neg (by omega), if_pos h], ?_⟩
  have : mayR L = false := by unfold mayR; simp; omega
  unfold putB; rw [this]; rfl
theorem put_good {L : List UInt8} (h : mayR L = true) : putE L = 0 ∧ putB L = frm L := by
  have hm := (mayR_iff L).1 h
  exact ⟨by unfold putE; rw [if_neg (by omega), if_neg (by omega)], by unfold putB; rw [if_pos h]⟩
theorem put_cases (L : List UInt8) : L.length = 0 ∨ 2048 < L.length ∨ mayR L = true := by rw [mayR_iff]; omega
set_option maxHeartbeats 2000000 in
set_option maxRecDepth 100000 in
theorem fput_any (v : Value) (L : List UInt8) (w : World) (hE : Env w) (hB : Bs w v L) : Calls Tryz.prog 20 #[v] w (PutR L w) := by
  unfold PutR
  obtain ⟨p, cap, rfl⟩ := hB.form
  rcases put_cases L with h | h | h
  · obtain ⟨e1, e2⟩ := put_none h
    rw [e1, e2, h]
    clear e1 e2 hE hB h
    go_enter Tryz.func20, Tryz.ntmps20
    go_wp2_with fail
    go_ret2
    exact ⟨_, rfl, OwnB.nil _ _, Below.refl _ _⟩
  · obtain ⟨e1, e2⟩ := put_long h
    rw [e1, e2]
    obtain ⟨n, hn⟩ : ∃ n, L.length = n := ⟨_, rfl⟩
    rw [hn] at h ⊢
    have h1 : ¬ ((n : Int) = 0) := by omega
    have h2 : (2048 : Int) < n := by omega
    have h3 : ¬ (n = 0) := by omega
    clear e1 e2 hE hB hn
    go_enter Tryz.func20, Tryz.ntmps20
    go_wp2_with fail
    go_ret2
    exact ⟨_, rfl, OwnB.nil _ _, Below.refl _ _⟩
  · obtain ⟨e1, e2⟩ := put_good h
    rw [e1, e2]
    have hm := (mayR_iff L).1 h
    have HF : Hid (frm L = putL (head4 L.length ++ L)) := Lib.hid rfl
    have HBs := Lib.hid hB
    have HEn := Lib.hid hE
    obtain ⟨n, hn⟩ : ∃ n, L.length = n := ⟨_, rfl⟩
    rw [hn] at HF hm HBs ⊢
    have HN := Lib.hid hn
    have h1 : ¬ ((n : Int) = 0) := by omega
    have h2 : ¬ ((2048 : Int) < n) := by omega
    have h3 : ¬ (n = 0) := by omega
    obtain ⟨b0, hb0⟩ : ∃ b0, UInt8.ofNat n = b0 := ⟨_, rfl⟩
    obtain ⟨b1, hb1⟩ : ∃ b1, UInt8.ofNat (n / 256) = b1 := ⟨_, rfl⟩
    obtain ⟨b2, hb2⟩ : ∃ b2, UInt8.ofNat (n / 65536) = b2 := ⟨_, rfl⟩
    obtain ⟨b3, hb3⟩ : ∃ b3, UInt8.ofNat (n / 16777216) = b3 := ⟨_, rfl⟩
    have c0 : (n : Int) % 256 = (b0.toNat : Int) := by rw [← hb0, UInt8.toNat_ofNat']; omega
    have c1 : (n : Int) / 256 = (b1.toNat : Int) := by rw [← hb1, UInt8.toNat_ofNat']; omega
    have c2 : (n : Int) / 65536 = (b2.toNat : Int) := by rw [← hb2, UInt8.toNat_ofNat']; omega
    have c3 : (n : Int) / 16777216 = (b3.toNat : Int) := by rw [← hb3, UInt8.toNat_ofNat']; omega
    have HH : Hid (head4 n = [b0, b1, b2, b3]) := Lib.hid (by unfold head4; rw [hb0, hb1, hb2, hb3])
    have D1 := below_one w (.cells #[byteV b0, byteV b1, byteV b2, byteV b3] 5)
    have K1 := ownB_lit w [b0, b1, b2, b3] #[byteV b0, byteV b1, byteV b2, byteV b3] 4 rfl rfl (by simp)
    have hz1 : (w.alloc (.cells #[byteV b0, byteV b1, byteV b2, byteV b3] 5)).heap.size = w.heap.size + 1 := by simp
    obtain ⟨W1, hW1⟩ : ∃ W1, w.alloc (.cells #[byteV b0, byteV b1, byteV b2, byteV b3] 5) = W1 := ⟨_, rfl⟩
    rw [hW1] at D1 K1 hz1
    have D2 := below_one W1 (.cells #[.slice (some ⟨w.heap.size, 0, none⟩) 4 4, .slice p n cap] 23)
    have K2 := Blk.new W1 23 #[.slice (some ⟨w.heap.size, 0, none⟩) 4 4, .slice p n cap]
    obtain ⟨W2, hW2⟩ : ∃ W2, W1.alloc (.cells #[.slice (some ⟨w.heap.size, 0, none⟩) 4 4, .slice p n cap] 23) = W2 := ⟨_, rfl⟩
    rw [hW2] at D2 K2
    have HC := Lib.hid (concatB_any _ _ _ [b0, b1, b2, b3] L W2 K2 (K1.below D2).bs ((HBs.out.below D1).below D2) (by simp; rw [HN.out]; omega))
    rw [hz1] at HC
    have HD2 := Lib.hid (then_ D1 D2)
    have HW1 := Lib.hid hW1
    have HW2 := Lib.hid hW2
    clear hb0 hb1 hb2 hb3 D1 K1 D2 K2 hz1 hW2 hW1
    have hw : IntKind.u32.wrap (n : Int) = (n : Int) := by rw [IntKind.wrap_u32']; omega
    clear e1 e2 hE hB hn h
    go_enter Tryz.func20, Tryz.ntmps20
    go_wp2_with fail
    rw [HW1.out, HW2.out]
    refine HC.out.mono ?_; rintro e w3 ⟨v3, rfl, ho3, b3'⟩
    have HB3 := Lib.hid (then_ HD2.out b3')
    have hlc : ([b0, b1, b2, b3] ++ L).length = n + 4 := by rw [List.length_append, HN.out]; simp; omega
    have HP := Lib.hid (put_any v3 ([b0, b1, b2, b3] ++ L) w3 (HEn.out.below HB3.out) ho3.bs (by rw [hlc]; unfold maxIn; omega))
    obtain ⟨p3, q3, rfl⟩ := ho3.form
    rw [hlc] at HP ⊢
    clear ho3 b3' HC hlc
    go_wp2_with fail
    refine HP.out.mono ?_; rintro e w4 ⟨v4, rfl, ho4, b4⟩
    obtain ⟨p4, q4, rfl⟩ := ho4.form
    have HO4 := Lib.hid (ho4.base (base' := w.heap.size) HB3.out.size)
    have HB4 := Lib.hid (then_ HB3.out b4)
    clear ho4 b4 HP
    generalize (putL ([b0, b1, b2, b3] ++ L)).length = n4 at *
    go_wp2_with fail
    go_ret2
    exact ⟨_, rfl, by rw [HF.out, HH.out]; exact HO4.out, HB4.out⟩
end Go.Proofs.YtelocbohiddpgaaGreatDoor.Crc
