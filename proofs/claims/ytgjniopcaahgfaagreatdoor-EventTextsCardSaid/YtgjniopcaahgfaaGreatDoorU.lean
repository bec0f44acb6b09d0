/- The contract of strconv.ParseUint(s, 16, 8) at a text of two bytes. -/
import Derived.Test.YtgjniopcaahgfaaGreatDoorT
import Derived.Lib.Strings
import Derived.Lib.Walk
import Derived.Lib.ConvBytes
import Derived.Lib.AtoiAllMem
import Derived.Lib.Hide
import Derived.Laws.Strings3
import Derived.Laws.Closers25
import Derived.Laws.Closers25b
import Derived.BigCall
import Derived.BigGuard
set_option linter.unusedSimpArgs false
set_option linter.unusedVariables false
namespace Go.Proofs.YtgjniopcaahgfaaGreatDoor
open Go.RowKit

/-- What a byte is worth to the base 16; none: it is no digit. -/
def dig16 (c : UInt8) : Option Nat :=
  if 48 ≤ c.toNat ∧ c.toNat ≤ 57 then some (c.toNat - 48)
  else if 97 ≤ (bits .or .u8 (c.toNat : Int) 32) ∧ (bits .or .u8 (c.toNat : Int) 32) ≤ 102 then some ((bits .or .u8 (c.toNat : Int) 32).toNat - 87) else none
theorem dig16_hexd (k : Nat) (h : k < 16) : dig16 (hexd k) = some k := by
  have : ∀ k : Fin 16, dig16 (hexd k.val) = some k.val := by decide +kernel
  exact this ⟨k, h⟩
theorem dig16_lt (c : UInt8) (d : Nat) (h : dig16 c = some d) : d < 16 := by
  unfold dig16 at h
  split at h
  · cases h; omega
  · split at h
    · cases h; omega
    · cases h
/-- What bytes are worth to the base 16, behind acc. -/
def fold16 (acc : Nat) : List UInt8 → Option Nat
  | [] => some acc
  | c :: r => match dig16 c with | some d => fold16 (acc * 16 + d) r | none => none
/-- What the inner call answers. -/
def tuple16 : Option Nat → Value
  | some v => .tuple #[.int .u64 (v : Int), .nilIface]
  | none => .tuple #[.int .u64 0, .iface 121 (.int .i64 2)]

theorem below_bytes (w : World) (e : TypeId) (s : ByteArray) : Below w.heap.size w (Lib.bytesWorld w e s) := by
  refine ⟨rfl, rfl, rfl, ?_, fun j hj => Lib.bytesWorld_at_old w e s j hj⟩
  rw [Lib.bytesWorld_size]; omega

set_option maxHeartbeats 4000000 in
set_option maxRecDepth 100000 in
theorem inner16_any (t : ByteArray) (h2 : t.size = 2) (w : World) :
    Calls Tryz.prog 88 #[.string t, .int .i64 16, .int .i64 8] w fun e w' => e = .returned (tuple16 (fold16 0 t.data.toList)) ∧ w' = Lib.bytesWorld w 5 t := by
  have hemp : t.toList.isEmpty = false := by
    rw [← decide_eq_emptyBytes]
    exact decide_eq_false (fun h => by rw [h] at h2; exact absurd h2 (by decide))
  have hcv := Lib.run_convert_string_bytes (P := Tryz.prog) w 9 62 5 t (u := .string) Tryz.underlying9 Tryz.underlying62 Tryz.underlying5
  have hB : ∀ j, j < t.size → (Lib.bytesWorld w 5 t).cell? ⟨w.heap.size, j, none⟩ = some (.int .u8 (t.data.toList.getD j 0).toNat) := fun j hj => Lib.bytesWorld_cell w 5 t j hj
  obtain ⟨W1, hW1⟩ : ∃ W1, W1 = Lib.bytesWorld w 5 t := ⟨_, rfl⟩
  rw [← hW1] at hcv hB ⊢
  clear hW1
  obtain ⟨bs, hL⟩ : ∃ bs, bs = t.data.toList := ⟨_, rfl⟩
  have hLn : bs.length = t.size := by rw [hL, Lib.size_eq]
  rw [← hL] at hB ⊢
  clear hL
  have H2 := Lib.hid h2
  have hmv : IntKind.u64.wrap (IntKind.u64.wrap 256 - 1) = 255 := by
    rw [IntKind.wrap_u64, IntKind.wrap_u64]
    decide
  clear h2
  go_enter Tryz.func88, Tryz.ntmps88
  go_wp2
  go_loop [12, 13, 101] (fun vu vn vi => ∃ (k acc : Nat) (a : Int), vu = .bool false ∧ vn = .int .u64 a ∧ vi = .int .i64 k ∧ k ≤ t.size ∧ Hid (a = (acc : Int) ∧ acc < 256 ∧ (k < 2 → acc < 16) ∧ (k = 0 → acc = 0) ∧ fold16 0 bs = fold16 acc (bs.drop k)))
    (fun _ _ vi => t.size - (intOf vi).toNat)
  case atStart => exact ⟨0, 0, 0, rfl, rfl, rfl, by omega, rfl, by omega, by omega, fun _ => rfl, rfl⟩
  case round =>
    obtain ⟨k, acc, a, rfl, rfl, rfl, hk, hh⟩ := hrel
    obtain ⟨ha, hacc, hlow, hzero, hdec⟩ := hh.out
    clear hh
    have h2 := H2.out
    have a0 : 0 ≤ a := by omega
    have a1 : a < 256 := by omega
    by_cases hkn : k < t.size
    · have hc := hB k hkn
      have hdrop : bs.drop k = bs[k]'(by omega) :: bs.drop (k + 1) := List.drop_eq_getElem_cons (by omega)
      have hget : bs.getD k 0 = bs[k]'(by omega) := by simp [List.getD, List.getElem?_eq_getElem (show k < bs.length by omega)]
      rw [hdrop] at hdec
      rw [hget] at hc
      generalize bs[k]'(by omega) = c at hc hdec
      have hc256 : c.toNat < 256 := c.toNat_lt
      have hk1 : k ≤ 1 := by omega
      have hac : acc < 16 := hlow (by omega)
      have a16 : a < 16 := by omega
      clear hB hdrop hget hlow
      have next : ∀ (d : Nat) (x : Int), x = (d : Int) → d < 16 → dig16 c = some d → Hid (a * 16 + x = ((acc * 16 + d : Nat) : Int) ∧ acc * 16 + d < 256 ∧ (k + 1 < 2 → acc * 16 + d < 16) ∧ (k + 1 = 0 → acc * 16 + d = 0) ∧ fold16 0 bs = fold16 (acc * 16 + d) (bs.drop (k + 1))) := by
        intro d x hx hd hdc
        refine Lib.hid ⟨by omega, by omega, fun h => by have := hzero (by omega); omega, fun h => by omega, ?_⟩
        rw [hdec]
        simp only [fold16, hdc]
      by_cases hdig : 48 ≤ c.toNat ∧ c.toNat ≤ 57
      · obtain ⟨hd0, hd1⟩ := hdig
        have HN := next (c.toNat - 48) ((c.toNat : Int) - 48) (by omega) (by omega) (by simp [dig16, hd0, hd1])
        clear hacc hdec ha hac next hzero h2
        go_wp2
        refine ⟨⟨k + 1, acc * 16 + (c.toNat - 48), a * 16 + ((c.toNat : Int) - 48), rfl, rfl, by simp, by omega, HN⟩, by simp [intOf]; omega⟩
      · have hu0 := bits_lo_u8 .or (c.toNat : Int) 32
        have hu1 := bits_hi_u8 .or (c.toNat : Int) 32
        have hx0 := bits_lo_u8 .or 95 32
        have hx1 := bits_hi_u8 .or 95 32
        by_cases hlet : 97 ≤ (bits .or .u8 (c.toNat : Int) 32) ∧ (bits .or .u8 (c.toNat : Int) 32) ≤ 102
        · obtain ⟨hl0, hl1⟩ := hlet
          have HN := next ((bits .or .u8 (c.toNat : Int) 32).toNat - 87) ((bits .or .u8 (c.toNat : Int) 32) - 97 + 10) (by omega) (by omega) (by simp [dig16, hl0, hl1]; omega)
          clear hacc hdec ha hac next hzero h2
          have hc95 : ¬ c.toNat = 95 := by
            intro h
            rw [h] at hl0 hl1
            revert hl0 hl1
            decide
          go_wp2_with (go_at_call 95; refine (Tryz.internal_strconv_lower _ _).mono ?_; rintro e w' ⟨rfl, rfl⟩)
          all_goals exact ⟨⟨k + 1, acc * 16 + ((bits .or .u8 (c.toNat : Int) 32).toNat - 87), a * 16 + ((bits .or .u8 (c.toNat : Int) 32) - 97 + 10), rfl, rfl, by simp, by omega, HN⟩, by simp [intOf]; omega⟩
        · have hF : fold16 acc (c :: bs.drop (k + 1)) = none := by simp [fold16, dig16, hdig, hlet]
          rw [hF] at hdec
          have hl : bits .or .u8 (c.toNat : Int) 32 < 97 ∨ 102 < bits .or .u8 (c.toNat : Int) 32 := by omega
          clear hacc hF ha hac next hzero h2 hlet
          by_cases hc95 : c.toNat = 95
          · have h127 : bits .or .u8 95 32 = 127 := by decide
            clear hl hx0 hx1 hu0 hu1
            go_wp2_with (go_at_call 95; refine (Tryz.internal_strconv_lower _ _).mono ?_; rintro e w' ⟨rfl, rfl⟩)
            all_goals go_ret2
            all_goals first | exact ⟨rfl, rfl⟩ | exact ⟨by rw [hdec]; rfl, rfl⟩
          · rcases hl with hl | hl
            · go_wp2_with (go_at_call 95; refine (Tryz.internal_strconv_lower _ _).mono ?_; rintro e w' ⟨rfl, rfl⟩)
              all_goals go_ret2
              all_goals first | exact ⟨rfl, rfl⟩ | exact ⟨by rw [hdec]; rfl, rfl⟩
            · go_wp2_with (go_at_call 95; refine (Tryz.internal_strconv_lower _ _).mono ?_; rintro e w' ⟨rfl, rfl⟩)
              all_goals go_ret2
              all_goals first | exact ⟨rfl, rfl⟩ | exact ⟨by rw [hdec]; rfl, rfl⟩
    · -- the bytes are at an end
      have hkk : k = t.size := by omega
      subst hkk
      have hF : fold16 acc (bs.drop t.size) = some acc := by rw [List.drop_eq_nil_of_le (by omega)]; rfl
      rw [hF] at hdec
      subst ha
      clear hacc hF a0 a1 h2 hlow hzero
      go_wp2
      go_ret2
      first | exact ⟨rfl, rfl⟩ | exact ⟨by rw [hdec]; rfl, rfl⟩
end Go.Proofs.YtgjniopcaahgfaaGreatDoor
