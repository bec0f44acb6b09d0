/- The document's reader: what it is in memory; num. -/
import Derived.Test.YtkfheodcmhodpaaVb
set_option linter.unusedSimpArgs false
set_option linter.unusedVariables false
namespace Go.Proofs.Ytkfheodcmhodpaa.Gm
open Go Go.RowKit
attribute [local go_sem ↓] Go.wp_at_zero Go.wp_at_succ

/-! ### Numbers of at most nine groups -/
theorem nr_err {most e : Nat} {L : List UInt8} (h : readN L most = .err e) : nR most L = none := by unfold nR; rw [h]
theorem nr_end {most k : Nat} {L : List UInt8} (hk : k = L.length) (hall : ∀ i, i < k → 128 ≤ (L.getD i 0).toNat) : nR most L = none := by
  have hl := lead_at (L := L) (k := k) (by omega) hall (fun h => absurd h (by omega))
  by_cases h : 10 ≤ leadN L
  · exact nr_err (read_10 h)
  · exact nr_err (read_short h (by omega))
theorem lead_geq {L : List UInt8} {k : Nat} (hk : k ≤ L.length) (h : ∀ i, i < k → 128 ≤ (L.getD i 0).toNat) : k ≤ leadN L := by
  rcases Nat.lt_or_ge (leadN L) k with hl | hl
  · have h2 := ((lead_split L).2 (by omega)).1
    have := h _ hl
    omega
  · exact hl
theorem take_more1 {L : List UInt8} {k : Nat} (hk : k < L.length) : valG (L.take (k + 1)) = valG (L.take k) + 128 ^ k * ((L.getD k 0).toNat % 128) := by
  rw [List.take_succ_eq_append_getElem hk, valG_app, List.length_take, Nat.min_eq_left (by omega), List.getD_eq_getElem?_getD, List.getElem?_eq_getElem hk]
  simp [valG]
theorem nr_nine {most : Nat} {L : List UInt8} (hm : most < 9223372036854775808) (hk : 9 ≤ L.length) (hall : ∀ i, i < 9 → 128 ≤ (L.getD i 0).toNat) : nR most L = none := by
  have h9 := lead_geq hk hall
  by_cases a1 : 10 ≤ leadN L
  · exact nr_err (read_10 a1)
  by_cases a2 : leadN L = L.length
  · exact nr_err (read_short a1 a2)
  by_cases a3 : leadN L = 9 ∧ 1 < (L.getD 9 0).toNat % 128
  · exact nr_err (read_big a1 a2 a3)
  by_cases a4 : 0 < leadN L ∧ (L.getD (leadN L) 0).toNat = 0
  · exact nr_err (read_zero a1 a2 a3 a4)
  have e9 : leadN L = 9 := by omega
  have hlt : 9 < L.length := by have := leadN_le L; omega
  have hc := ((lead_split L).2 (by omega)).1
  rw [e9] at hc a4
  have hv := take_more1 hlt
  rw [p9] at hv
  have hr := read_last (L := L) (most := most) a1 a2 a3 (by rw [e9]; exact a4)
  rw [e9, if_pos (by omega)] at hr
  exact nr_err hr
theorem nr_last {most k : Nat} {c : UInt8} {L : List UInt8} (hk : k < L.length) (h8 : k ≤ 8) (hall : ∀ i, i < k → 128 ≤ (L.getD i 0).toNat) (hc : L.getD k 0 = c) (h : c.toNat < 128) :
    nR most L = if most < valG (L.take (k + 1)) ∨ (c.toNat = 0 ∧ 0 < k) then none else some (valG (L.take (k + 1)), L.drop (k + 1)) := by
  have hl := lead_at (L := L) (k := k) (by omega) hall (fun _ => by rw [hc]; exact h)
  have a1 : ¬ 10 ≤ leadN L := by omega
  have a2 : ¬ leadN L = L.length := by omega
  have a3 : ¬ (leadN L = 9 ∧ 1 < (L.getD 9 0).toNat % 128) := by omega
  by_cases a4 : 0 < leadN L ∧ (L.getD (leadN L) 0).toNat = 0
  · rw [if_pos (.inr (by rw [hl, hc] at a4; exact ⟨a4.2, a4.1⟩))]
    exact nr_err (read_zero a1 a2 a3 a4)
  · have hr := read_last (L := L) (most := most) a1 a2 a3 a4
    rw [hl, hc] at a4
    rw [hl] at hr
    by_cases hm : most < valG (L.take (k + 1))
    · rw [if_pos hm] at hr
      rw [if_pos (.inl hm)]
      exact nr_err hr
    · rw [if_neg hm] at hr
      rw [if_neg (by omega)]
      unfold nR
      rw [hr]

/-! ### The reader in memory -/
/-- Where bytes lie, if there are any. -/
def InQ (b : Nat) (v : Value) (L : List UInt8) : Prop := ∀ a n c, v = .slice (some a) n c → L ≠ [] → a.block = b
theorem bs_keepq {w w' : World} {b : Nat} {v : Value} {L : List UInt8} (h : Bs w v L) (hI : InQ b v L) (hs : w.heap.size ≤ w'.heap.size) (hb : L ≠ [] → w'.heap[b]? = w.heap[b]?) : Bs w' v L := by
  rcases h with h | ⟨a, cap, h1, h2, h3⟩
  · exact .inl h
  · refine .inr ⟨a, cap, h1, h2, fun hl => ?_⟩
    obtain ⟨b', o, rfl, hbl, hc⟩ := h3 hl
    have := hI _ _ _ h1 hl
    simp only at this
    subst this
    exact ⟨b', o, rfl, Nat.lt_of_lt_of_le hbl hs, fun i hi => (World.cell?_of_block (a := ⟨b', o + i, none⟩) (hb hl)).trans (hc i hi)⟩
/-- The document's reader in block R. -/
abbrev Rq (w : World) (R : Nat) (v : Value) (bad : Bool) : Prop := Blk w R 96 #[v, .bool bad]
theorem Rq.set0 {w : World} {R : Nat} {v : Value} {bad : Bool} (h : Rq w R v bad) (u : Value) : Rq (w.setCell ⟨R, 0, none⟩ u) R u bad := by
  have := heap_setCell_same w R 0 #[v, .bool bad] 96 u h
  simpa [Blk] using this
theorem Rq.set1 {w : World} {R : Nat} {v : Value} {bad : Bool} (h : Rq w R v bad) (b : Bool) : Rq (w.setCell ⟨R, 1, none⟩ (.bool b)) R v b := by
  have := heap_setCell_same w R 1 #[v, .bool bad] 96 (.bool b) h
  simpa [Blk] using this
/-- It has these bytes left, which lie in block b, and all went well. -/
structure Rs (w : World) (R b : Nat) (v : Value) (L : List UInt8) : Prop where
  rq : Rq w R v false
  bs : Bs w v L
  inb : InQ b v L
  ne : L ≠ [] → b ≠ R
  lt : L ≠ [] → b < w.heap.size
  len : L.length ≤ 140737488355328
/-- What a reading leaves: what was read, and the bytes behind it; or the reader is bad. -/
def RdE {α : Type} (R b : Nat) (rd : Rd α) (yes : α → Value → World → Prop) (no : Value → World → Prop) (L : List UInt8) (w : World) (e : Ending) (w' : World) : Prop :=
  match rd L with
  | some (x, r) => ∃ u v', e = .returned u ∧ yes x u w' ∧ Rs w' R b v' r ∧ w.grownBy w' (some R)
  | none => ∃ u p n c, e = .returned u ∧ no u w' ∧ Rq w' R (.slice p n c) true ∧ w.grownBy w' (some R)
section
variable {α : Type} {R b : Nat} {rd : Rd α} {yes : α → Value → World → Prop} {no : Value → World → Prop} {L : List UInt8} {w w' : World}
theorem rdE_no (h : rd L = none) (u : Value) (p : Option Addr) (n c : Nat) (h1 : no u w') (h2 : Rq w' R (.slice p n c) true) (h3 : w.grownBy w' (some R)) : RdE R b rd yes no L w (.returned u) w' := by
  unfold RdE; rw [h]; exact ⟨u, p, n, c, rfl, h1, h2, h3⟩
theorem rdE_yes {x : α} {r : List UInt8} (h : rd L = some (x, r)) (u v' : Value) (h1 : yes x u w') (h2 : Rs w' R b v' r) (h3 : w.grownBy w' (some R)) : RdE R b rd yes no L w (.returned u) w' := by
  unfold RdE; rw [h]; exact ⟨u, v', rfl, h1, h2, h3⟩
end
/-- How far num has come. -/
structure Qs (R b o : Nat) (L : List UInt8) (w : World) (k : Nat) (A : Option Addr) (cap' : Nat) (wr : World) : Prop where
  kl : k ≤ L.length
  k9 : k ≤ 9
  rdr : Rq wr R (.slice A (L.length - k) cap') false
  cap : L.length - k ≤ cap'
  at_ : k < L.length → A = some ⟨b, o + k, none⟩
  all : ∀ i, i < k → 128 ≤ (L.getD i 0).toNat
  gr : w.grownBy wr (some R)
theorem Qs.next {R b o : Nat} {L : List UInt8} {w wr : World} {k m cap' : Nat} {A A' : Option Addr} {c'' : Nat} (h : Qs R b o L w k A cap' wr) (hm : L.length - k = m + 1) (h9 : k + 1 ≤ 9) (hc : 128 ≤ (L.getD k 0).toNat) (h2 : 0 < m → A' = some ⟨b, o + k + 1, none⟩) (h3 : m ≤ c'') : Qs R b o L w (k + 1) A' c'' (wr.setCell ⟨R, 0, none⟩ (.slice A' m c'')) := by
  have e : L.length - (k + 1) = m := by omega
  refine ⟨by have := h.kl; omega, h9, by rw [e]; exact h.rdr.set0 _, by rw [e]; exact h3, fun hk => by rw [h2 (by omega), Nat.add_assoc], fun i hi => ?_, grown_set h.gr _⟩
  by_cases he : i < k
  · exact h.all i he
  · have : i = k := by omega
    subst this; exact hc
abbrev isN (n : Nat) (u : Value) (_ : World) : Prop := u = .int .u64 n
theorem Qs.ends {R b o : Nat} {L : List UInt8} {w wr : World} {k m cap' most : Nat} {A A' : Option Addr} {c'' : Nat} (h : Qs R b o L w k A cap' wr) (hb : b < w.heap.size) (hbR : b ≠ R) (hC : ∀ i, i < L.length → w.cell? ⟨b, o + i, none⟩ = some (byteV (L.getD i 0))) (hl : L.length ≤ 140737488355328) (hm : L.length - k = m + 1) (hr : nR most L = some (valG (L.take (k + 1)), L.drop (k + 1))) (h1 : A' = some ⟨b, o + k + 1, none⟩ ∨ m = 0) (h2 : A' ≠ none) (h3 : m ≤ c'') : RdE R b (nR most) isN (isN 0) L w (.returned (.int .u64 (valG (L.take (k + 1)) : Nat))) (wr.setCell ⟨R, 0, none⟩ (.slice A' m c'')) := by
  have hg := grown_set (i := 0) h.gr (.slice A' m c'')
  have e : (L.drop (k + 1)).length = m := by rw [List.length_drop]; omega
  have hn : L.drop (k + 1) ≠ [] → A' = some ⟨b, o + k + 1, none⟩ := fun hne => by
    rcases h1 with h | h
    · exact h
    · exact absurd (List.eq_nil_of_length_eq_zero (by omega)) hne
  obtain ⟨a, rfl⟩ : ∃ a, A' = some a := by cases A' with
    | none => exact absurd rfl h2
    | some a => exact ⟨a, rfl⟩
  refine rdE_yes hr _ (.slice (some a) m c'') rfl ⟨h.rdr.set0 _, ?_, ?_, fun _ => hbR, fun _ => Nat.lt_of_lt_of_le hb hg.size, by omega⟩ hg
  · refine .inr ⟨a, c'', by rw [e], by rw [e]; exact h3, fun hl => ?_⟩
    have ha := Option.some.inj (hn hl)
    refine ⟨b, o + k + 1, ha, Nat.lt_of_lt_of_le hb hg.size, fun i hi => ?_⟩
    rw [e] at hi
    rw [World.cell?_of_block (a := ⟨b, o + k + 1 + i, none⟩) (hg.block b hb (by rintro h; exact hbR (Option.some.inj h)))]
    have := hC (k + 1 + i) (by omega)
    rw [show o + k + 1 + i = o + (k + 1 + i) by omega, this, List.getD_eq_getElem?_getD, List.getD_eq_getElem?_getD, List.getElem?_drop]
  · intro a' n c h4 hne
    simp only [Value.slice.injEq, Option.some.injEq] at h4
    rw [← h4.1, Option.some.inj (hn hne)]
theorem num_val {N W k : Nat} {c : UInt8} (hW : W = 128 ^ k) (hk : k ≤ 8) (hN : N < W) : IntKind.u64.wrap ((N : Int) + IntKind.u64.wrap ((c.toNat : Int) % 128 * (W : Int))) = ((N + W * (c.toNat % 128) : Nat) : Int) := by
  have hp := Nat.pow_le_pow_right (n := 128) (by decide) hk
  have h8 : (128 : Nat) ^ 8 = 72057594037927936 := by decide
  rw [← hW] at hp
  have hx := Nat.mul_le_mul_left W (show c.toNat % 128 ≤ 127 by omega)
  have e1 : (c.toNat : Int) % 128 * (W : Int) = ((W * (c.toNat % 128) : Nat) : Int) := by rw [Int.natCast_mul, Int.mul_comm]; rfl
  rw [e1]
  generalize W * (c.toNat % 128) = M at hx ⊢
  rw [IntKind.wrap_u64, IntKind.wrap_u64]
  omega
theorem worth_next {W k : Nat} (hW : W = 128 ^ k) (hk : k ≤ 8) : IntKind.u64.wrap ((W : Int) * 128) = ((128 ^ (k + 1) : Nat) : Int) := by
  have hp := Nat.pow_le_pow_right (n := 128) (by decide) hk
  have h8 : (128 : Nat) ^ 8 = 72057594037927936 := by decide
  rw [← hW] at hp
  rw [Nat.pow_succ, ← hW, IntKind.wrap_u64]
  omega
set_option maxHeartbeats 4000000 in
set_option maxRecDepth 20000 in
/-- The document's num, of bytes that are there. -/
theorem rnum_cons (R b o cap : Nat) (L : List UInt8) (most : Nat) (hmost : most < 9223372036854775808) (w : World) (hR : Rq w R (.slice (some ⟨b, o, none⟩) L.length cap) false) (hcap : L.length ≤ cap) (hb : b < w.heap.size) (hbR : b ≠ R)
    (hC : ∀ i, i < L.length → w.cell? ⟨b, o + i, none⟩ = some (byteV (L.getD i 0))) (hl : L.length ≤ 140737488355328) : Calls Try.prog 54 #[.pointer (some ⟨R, 0, none⟩), .int .u64 most] w (RdE R b (nR most) isN (isN 0) L w) := by
  have HR := Lib.hid hR
  have HC := Lib.hid hC
  clear hR hC
  go_enter Try.func54, Try.ntmps54
  go_wp2_with fail
  go_loopw [5, 6, 7] (fun nv tv iv wr => ∃ (k : Nat) (A : Addr) (cap' : Nat), nv = .int .u64 (valG (L.take k) : Nat) ∧ tv = .int .u64 ((128 ^ k : Nat) : Int) ∧ iv = .int .i64 k ∧ Qs R b o L w k (some A) cap' wr) (fun _ _ iv _ => 9 - (intOf iv).toNat)
  case atStart => exact ⟨0, ⟨b, o, none⟩, cap, rfl, rfl, rfl, Nat.zero_le _, by omega, HR.out, hcap, fun _ => rfl, fun i hi => by omega, World.grownBy.refl _ _⟩
  case round =>
    obtain ⟨k, A, cap', rfl, rfl, rfl, hS⟩ := hrel
    have HS := Lib.hid hS
    have c0 := hS.rdr.cell 0 (u := .slice (some A) (L.length - k) cap') rfl
    have c1 := hS.rdr.cell 1 (u := .bool false) rfl
    have f0 := hS.rdr.free 0
    have f1 := hS.rdr.free 1
    have hk := hS.kl
    have hk9 := hS.k9
    have hcp := hS.cap
    clear hS
    by_cases h9 : k = 9
    · subst h9
      have HE := Lib.hid (rdE_no (b := b) (yes := isN) (no := isN 0) (w := w) (nr_nine hmost hk HS.out.all) (.int .u64 0) (some A) (L.length - 9) cap' rfl (HS.out.rdr.set1 true) (grown_set HS.out.gr _))
      clear HS
      go_wp2_with fail
      go_ret
      exact HE.out
    · have d9 : decide ((k : Int) < 9) = true := by simp; omega
      by_cases hkl : k < L.length
      · have hA := HS.out.at_ hkl
        simp only [Option.some.injEq] at hA
        subst hA
        have d0 : wr.cell? ⟨b, o + k, none⟩ = some (byteV (L.getD k 0)) := (World.cell?_of_block (a := ⟨b, o + k, none⟩) (HS.out.gr.block b hb (by rintro h; exact hbR (Option.some.inj h)))).trans (HC.out k hkl)
        obtain ⟨m, hm⟩ : ∃ m, L.length - k = m + 1 := ⟨L.length - k - 1, by omega⟩
        obtain ⟨c, hc⟩ : ∃ c, L.getD k 0 = c := ⟨_, rfl⟩
        have hvN : valG (L.take k) < 128 ^ k := by
          have := valG_lt (L.take k)
          rwa [List.length_take, Nat.min_eq_left hk] at this
        have hnx := take_more1 hkl
        rw [hc] at d0 hnx
        rw [hm] at c0 hcp
        have i1 : decide ((0 : Int) < (m : Int) + 1) = true := by rw [decide_eq_true_iff]; omega
        have i2 : ((m : Int) + 1 == 0) = false := by rw [beq_eq_false_iff_ne]; omega
        obtain ⟨N, hN⟩ : ∃ N : Nat, valG (L.take k) = N := ⟨_, rfl⟩
        obtain ⟨W, hW⟩ : ∃ W : Nat, 128 ^ k = W := ⟨_, rfl⟩
        rw [hN] at hvN hnx ⊢
        rw [hW] at hvN hnx ⊢
        have hval := num_val (N := N) (W := W) (k := k) (c := c) hW.symm (by omega) hvN
        have hwor : IntKind.u64.wrap ((W : Int) * 128) = ((128 ^ (k + 1) : Nat) : Int) := worth_next hW.symm (by omega)
        obtain ⟨V, hV⟩ : ∃ V, N + W * (c.toNat % 128) = V := ⟨_, rfl⟩
        rw [hV] at hnx hval
        by_cases h8 : c.toNat < 128
        · have u1 : decide ((c.toNat : Int) < 128) = true := by simp; omega
          have hla := nr_last (most := most) hkl (by omega) HS.out.all hc h8
          rw [hnx] at hla
          have HEr := Lib.hid (fun (h : nR most L = none) A' n' c' => rdE_no (b := b) (yes := isN) (no := isN 0) (w := w) h (.int .u64 0) A' n' c' rfl ((HS.out.rdr.set0 (.slice A' n' c')).set1 true) (grown_set (grown_set HS.out.gr _) _))
          by_cases t1 : most < V
          · have t1' : decide ((most : Int) < (V : Int)) = true := by simp; omega
            have t1n : decide (most < V) = true := by simp; omega
            rw [if_pos (.inl t1)] at hla
            have HE := Lib.hid (HEr.out hla)
            clear hN hW hV hla HEr t1 h8 hnx hvN hc HS
            go_wp2_with fail
            all_goals
              go_ret
              exact HE.out _ _ _
          · have t1' : decide ((most : Int) < (V : Int)) = false := by simp; omega
            have t1n : decide (most < V) = false := by simp; omega
            by_cases t2 : c.toNat = 0 ∧ 0 < k
            · have t2' : ((c.toNat : Int) == 0) = true := by rw [beq_iff_eq]; omega
              have t3 : decide ((0 : Int) < (k : Int)) = true := by simp; omega
              have t3n : decide (0 < k) = true := by simp; omega
              rw [if_pos (.inr t2)] at hla
              have HE := Lib.hid (HEr.out hla)
              clear hN hW hV hla HEr t1 h8 hnx hvN hc HS t2
              go_wp2_with fail
              all_goals
                go_ret
                exact HE.out _ _ _
            · rw [if_neg (by omega)] at hla
              have HOk := Lib.hid (fun A' c'' => Qs.ends (A' := A') (c'' := c'') HS.out hb hbR HC.out hl hm (by rw [hnx]; exact hla))
              rw [hnx] at HOk
              by_cases t3 : c.toNat = 0
              · have t3' : ((c.toNat : Int) == 0) = true := by rw [beq_iff_eq]; omega
                have t4 : decide ((0 : Int) < (k : Int)) = false := by simp; omega
                have t4n : decide (0 < k) = false := by simp; omega
                clear hN hW hV hla HEr t1 h8 hnx hvN hc HS t2 t3
                go_wp2_with fail
                all_goals
                  go_ret
                  first | exact HOk.out (some ⟨b, o + k + 1, none⟩) (cap' - 1) (.inl rfl) (by simp) (by omega) | exact HOk.out (some ⟨b, o + k, none⟩) 0 (.inr (by omega)) (by simp) (by omega) | exact HOk.out (some ⟨b, o + k, none⟩) (cap' - 1) (.inr (by omega)) (by simp) (by omega)
              · have t3' : ((c.toNat : Int) == 0) = false := by rw [beq_eq_false_iff_ne]; omega
                clear hN hW hV hla HEr t1 h8 hnx hvN hc HS t2 t3
                go_wp2_with fail
                all_goals
                  go_ret
                  first | exact HOk.out (some ⟨b, o + k + 1, none⟩) (cap' - 1) (.inl rfl) (by simp) (by omega) | exact HOk.out (some ⟨b, o + k, none⟩) 0 (.inr (by omega)) (by simp) (by omega) | exact HOk.out (some ⟨b, o + k, none⟩) (cap' - 1) (.inr (by omega)) (by simp) (by omega)
        · have u1 : decide ((c.toNat : Int) < 128) = false := by simp; omega
          clear hN hW hV
          go_wp2_with fail
          go_roundw
          case rel =>
            by_cases hcc : cap' = 1
            · rw [if_pos hcc]
              exact ⟨k + 1, _, cap' - 1, by rw [hnx], rfl, by simp, HS.out.next hm (by omega) (by rw [hc]; omega) (fun h => by omega) (by omega)⟩
            · rw [if_neg hcc]
              exact ⟨k + 1, _, cap' - 1, by rw [hnx], rfl, by simp, HS.out.next hm (by omega) (by rw [hc]; omega) (fun h => rfl) (by omega)⟩
          case measure => simp [intOf]; omega
      · have hkL : k = L.length := by omega
        have HE := Lib.hid (rdE_no (b := b) (yes := isN) (no := isN 0) (w := w) (nr_end (most := most) hkL HS.out.all) (.int .u64 0) (some A) (L.length - k) cap' rfl (HS.out.rdr.set1 true) (grown_set HS.out.gr _))
        have e0 : L.length - k = 0 := by omega
        rw [e0] at c0
        clear HS
        go_wp2_with fail
        go_ret
        exact HE.out
set_option maxHeartbeats 4000000 in
set_option maxRecDepth 20000 in
/-- Of no bytes. -/
theorem rnum_nil (R b cap : Nat) (p : Option Addr) (most : Nat) (w : World) (hR : Rq w R (.slice p 0 cap) false) : Calls Try.prog 54 #[.pointer (some ⟨R, 0, none⟩), .int .u64 most] w (RdE R b (nR most) isN (isN 0) [] w) := by
  have c0 := hR.cell 0 (u := .slice p 0 cap) rfl
  have c1 := hR.cell 1 (u := .bool false) rfl
  have f1 := hR.free 1
  have HE := Lib.hid (rdE_no (b := b) (yes := isN) (no := isN 0) (w := w) (nr_end (most := most) (L := []) (k := 0) rfl (fun i hi => by omega)) (.int .u64 0) p 0 cap rfl (hR.set1 true) (grown_set (World.grownBy.refl _ _) _))
  clear hR
  go_enter Try.func54, Try.ntmps54
  go_wp2_with fail
  go_loopw [5, 6, 7] (fun nv tv iv wr => nv = .int .u64 0 ∧ tv = .int .u64 1 ∧ iv = .int .i64 0 ∧ wr = w) (fun _ _ _ _ => 0)
  case atStart => exact ⟨rfl, rfl, rfl, rfl⟩
  case round =>
    obtain ⟨rfl, rfl, rfl, rfl⟩ := hrel
    go_wp2_with fail
    go_ret
    exact HE.out
/-- The document's num. -/
theorem rnum_any (R b : Nat) (v : Value) (L : List UInt8) (most : Nat) (hm : most < 9223372036854775808) (w : World) (hS : Rs w R b v L) : Calls Try.prog 54 #[.pointer (some ⟨R, 0, none⟩), .int .u64 most] w (RdE R b (nR most) isN (isN 0) L w) := by
  obtain ⟨h1, h2, h3, h4, h5, h6⟩ := hS
  rcases h2 with ⟨rfl, rfl⟩ | ⟨a, cap, rfl, hc, hb⟩
  · exact rnum_nil R b 0 none most w h1
  · by_cases hl : L = []
    · subst hl
      exact rnum_nil R b cap (some a) most w h1
    · obtain ⟨b', o, rfl, hbl, hcc⟩ := hb hl
      have := h3 _ _ _ rfl hl
      simp only at this
      subst this
      exact rnum_cons R b' o cap L most hm w h1 hc hbl (h4 hl) hcc h6
set_option maxHeartbeats 4000000 in
set_option maxRecDepth 20000 in
/-- Of a reader that is bad already. -/
theorem rnum_bad (R : Nat) (p : Option Addr) (n cap : Nat) (most : Nat) (w : World) (hR : Rq w R (.slice p n cap) true) : Calls Try.prog 54 #[.pointer (some ⟨R, 0, none⟩), .int .u64 most] w fun e w' => e = .returned (.int .u64 0) ∧ Rq w' R (.slice p n cap) true ∧ w.grownBy w' (some R) := by
  have c0 := hR.cell 0 (u := .slice p n cap) rfl
  have c1 := hR.cell 1 (u := .bool true) rfl
  have f1 := hR.free 1
  have HE := Lib.hid (And.intro (hR.set1 true) (grown_set (i := 1) (World.grownBy.refl w (some R)) (.bool true)))
  clear hR
  go_enter Try.func54, Try.ntmps54
  go_wp2_with fail
  go_loopw [5, 6, 7] (fun nv tv iv wr => nv = .int .u64 0 ∧ tv = .int .u64 1 ∧ iv = .int .i64 0 ∧ wr = w) (fun _ _ _ _ => 0)
  case atStart => exact ⟨rfl, rfl, rfl, rfl⟩
  case round =>
    obtain ⟨rfl, rfl, rfl, rfl⟩ := hrel
    go_wp2_with fail
    go_ret
    exact ⟨rfl, HE.out.1, HE.out.2⟩
end Go.Proofs.Ytkfheodcmhodpaa.Gm
