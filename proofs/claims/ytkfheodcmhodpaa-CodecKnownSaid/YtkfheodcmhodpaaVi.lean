/- The document's reader: good or bad, in one; signed. -/
import Derived.Test.YtkfheodcmhodpaaVh
set_option linter.unusedSimpArgs false
set_option linter.unusedVariables false
namespace Go.Proofs.Ytkfheodcmhodpaa.Gm
open Go Go.RowKit
attribute [local go_sem ↓] Go.wp_at_zero Go.wp_at_succ

/-- A reader that has these bytes left, or is bad. -/
def Rx (w : World) (R b : Nat) : Option (List UInt8) → Prop
  | some L => ∃ v, Rs w R b v L
  | none => ∃ p n c, Rq w R (.slice p n c) true
/-- What a reading leaves: what was read, if it was; and the reader. -/
def RdX {α : Type} (R b : Nat) (O : Option (α × List UInt8)) (ret : Option α → Value → World → Prop) (w : World) (e : Ending) (w' : World) : Prop :=
  ∃ u, e = .returned u ∧ ret (O.map Prod.fst) u w' ∧ Rx w' R b (O.map Prod.snd) ∧ w.grownBy w' (some R)
abbrev retN (o : Option Nat) (u : Value) (_ : World) : Prop := u = .int .u64 (o.getD 0 : Nat)
abbrev retS (o : Option ByteArray) (u : Value) (_ : World) : Prop := u = .string (o.getD ⟨#[]⟩)
abbrev retI (o : Option Int) (u : Value) (_ : World) : Prop := u = .int .i64 (o.getD 0)
section
variable {α : Type} {R b : Nat} {rd : Rd α} {yes : α → Value → World → Prop} {no : Value → World → Prop} {ret : Option α → Value → World → Prop} {w w' : World} {e : Ending}
theorem RdE.x {L : List UInt8} (h : RdE R b rd yes no L w e w') (hy : ∀ x u W, yes x u W → ret (some x) u W) (hn : ∀ u W, no u W → ret none u W) : RdX R b (rd L) ret w e w' := by
  unfold RdE at h
  cases hr : rd L with
  | none =>
    rw [hr] at h
    obtain ⟨u, p, n, c, h1, h2, h3, h4⟩ := h
    exact ⟨u, h1, hn _ _ h2, ⟨p, n, c, h3⟩, h4⟩
  | some x =>
    obtain ⟨x, r⟩ := x
    rw [hr] at h
    obtain ⟨u, v', h1, h2, h3, h4⟩ := h
    exact ⟨u, h1, hy _ _ _ h2, ⟨v', h3⟩, h4⟩
end
/-- num, of a reader good or bad. -/
theorem rnumX (R b : Nat) (o : Option (List UInt8)) (most : Nat) (hm : most < 9223372036854775808) (w : World) (hS : Rx w R b o) : Calls Try.prog 54 #[.pointer (some ⟨R, 0, none⟩), .int .u64 most] w (RdX R b (o.bind (nR most)) retN w) := by
  cases o with
  | none =>
    obtain ⟨p, n, c, h⟩ := hS
    exact (rnum_bad R p n c most w h).mono (by rintro e w' ⟨rfl, h1, h2⟩; exact ⟨_, rfl, rfl, ⟨p, n, c, h1⟩, h2⟩)
  | some L =>
    obtain ⟨v, h⟩ := hS
    exact (rnum_any R b v L most hm w h).mono (by rintro e w' h1; exact h1.x (fun x u W h => h) (fun u W h => h))
set_option maxHeartbeats 4000000 in
set_option maxRecDepth 20000 in
theorem rtext_bad (R : Nat) (p : Option Addr) (n cap : Nat) (most : Nat) (w : World) (hR : Rq w R (.slice p n cap) true) : Calls Try.prog 55 #[.pointer (some ⟨R, 0, none⟩), .int .u64 most] w fun e w' => e = .returned (.string ⟨#[]⟩) ∧ Rq w' R (.slice p n cap) true ∧ w.grownBy w' (some R) := by
  have HN := Lib.hid (rnum_bad R p n cap most w hR)
  clear hR
  go_enter Try.func55, Try.ntmps55
  go_wp2_with fail
  refine HN.out.mono ?_; rintro e w1 ⟨rfl, h1, h2⟩
  have c1 := h1.cell 1 (u := .bool true) rfl
  have c0 := h1.cell 0 (u := .slice p n cap) rfl
  have f1 := h1.free 1
  have HE1 := Lib.hid (And.intro (h1.set1 true) (grown_set (i := 1) h2 (.bool true)))
  clear h1 h2
  go_wp2_with fail
  go_ret
  exact ⟨rfl, HE1.out.1, HE1.out.2⟩
/-- text, of a reader good or bad. -/
theorem rtextX (R b : Nat) (o : Option (List UInt8)) (most : Nat) (hm : most < 9223372036854775808) (w : World) (hS : Rx w R b o) : Calls Try.prog 55 #[.pointer (some ⟨R, 0, none⟩), .int .u64 most] w (RdX R b (o.bind (sR most)) retS w) := by
  cases o with
  | none =>
    obtain ⟨p, n, c, h⟩ := hS
    exact (rtext_bad R p n c most w h).mono (by rintro e w' ⟨rfl, h1, h2⟩; exact ⟨_, rfl, rfl, ⟨p, n, c, h1⟩, h2⟩)
  | some L =>
    obtain ⟨v, h⟩ := hS
    exact (rtext_any R b v L most hm w h).mono (by rintro e w' h1; exact h1.x (fun x u W h => h) (fun u W h => h))

/-! ### Signed numbers -/
theorem ir_none {L : List UInt8} (h : nR 18446744073709551615 L = none) : iR L = none := by unfold iR mapR; rw [h]
theorem ir_some {n : Nat} {L D : List UInt8} (h : nR 18446744073709551615 L = some (n, D)) : iR L = some (unfoldI n, D) := mapR_of h
theorem ir_ten {L : List UInt8} (hk : 10 ≤ L.length) (hall : ∀ i, i < 10 → 128 ≤ (L.getD i 0).toNat) : iR L = none := ir_none (nr_err (read_10 (lead_geq hk hall)))
theorem ir_last {k : Nat} {c : UInt8} {L : List UInt8} (hk : k < L.length) (h9 : k ≤ 9) (hall : ∀ i, i < k → 128 ≤ (L.getD i 0).toNat) (hc : L.getD k 0 = c) (h : c.toNat < 128) :
    iR L = if (0 < k ∧ c.toNat = 0) ∨ (k = 9 ∧ 1 < c.toNat) then none else some (unfoldI (valG (L.take (k + 1))), L.drop (k + 1)) := by
  have hl := lead_at (L := L) (k := k) (by omega) hall (fun _ => by rw [hc]; exact h)
  have a1 : ¬ 10 ≤ leadN L := by omega
  have a2 : ¬ leadN L = L.length := by omega
  by_cases a3 : leadN L = 9 ∧ 1 < (L.getD 9 0).toNat % 128
  · have hk9 : k = 9 := by omega
    subst hk9
    rw [hc] at a3
    rw [if_pos (.inr ⟨rfl, by omega⟩)]
    exact ir_none (nr_err (read_big a1 a2 (by rw [hc]; exact a3)))
  by_cases a4 : 0 < leadN L ∧ (L.getD (leadN L) 0).toNat = 0
  · rw [if_pos (.inl (by rw [hl, hc] at a4; exact a4))]
    exact ir_none (nr_err (read_zero a1 a2 a3 a4))
  · have hr := read_last (L := L) (most := 18446744073709551615) a1 a2 a3 a4
    have h64 := valG_64 a1 a2 a3
    rw [hl] at h64
    rw [hl, if_neg (by omega)] at hr
    rw [if_neg]
    · refine ir_some ?_
      unfold nR
      rw [hr]
    · rintro (h | h)
      · rw [hl, hc] at a4; exact a4 h
      · obtain ⟨rfl, h⟩ := h
        exact a3 ⟨hl, by rw [hc]; omega⟩
theorem ir_fits {k : Nat} {c : UInt8} {L : List UInt8} (hk : k < L.length) (h9 : k ≤ 9) (hall : ∀ i, i < k → 128 ≤ (L.getD i 0).toNat) (hc : L.getD k 0 = c) (h : c.toNat < 128) (hn : ¬ ((0 < k ∧ c.toNat = 0) ∨ (k = 9 ∧ 1 < c.toNat))) : valG (L.take (k + 1)) < 18446744073709551616 := by
  have hl := lead_at (L := L) (k := k) (by omega) hall (fun _ => by rw [hc]; exact h)
  have h64 := valG_64 (L := L) (by omega) (by omega) (by
    rintro ⟨h1, h2⟩
    have hk9 : k = 9 := by omega
    subst hk9
    rw [hc] at h2
    exact hn (.inr ⟨rfl, by omega⟩))
  rwa [hl] at h64
/-- The groups from the last to the first. -/
theorem val_step {G : List UInt8} {i : Nat} (hi : i < G.length) : valG (G.drop i) = valG (G.drop (i + 1)) * 128 + (G.getD i 0).toNat % 128 := by
  rw [List.drop_eq_getElem_cons hi, List.getD_eq_getElem?_getD, List.getElem?_eq_getElem hi]
  simp only [valG, Option.getD_some]
  omega
theorem val_part (G : List UInt8) (i : Nat) : valG (G.drop i) ≤ valG G := by
  induction i generalizing G with
  | zero => exact Nat.le_refl _
  | succ i ih =>
    cases G with
    | nil => simp
    | cons c G =>
      have := ih G
      simp only [List.drop_succ_cons, valG]
      omega
theorem sign_step {G : List UInt8} {i : Nat} (hi : i < G.length) (hG : valG G < 18446744073709551616) : IntKind.u64.wrap (IntKind.u64.wrap ((valG (G.drop (i + 1)) : Nat) * 128) + ((G.getD i 0).toNat : Int) % 128) = ((valG (G.drop i) : Nat) : Int) := by
  have h1 := val_step hi
  have h2 := val_part G i
  rw [IntKind.wrap_u64, IntKind.wrap_u64]
  omega
end Go.Proofs.Ytkfheodcmhodpaa.Gm
