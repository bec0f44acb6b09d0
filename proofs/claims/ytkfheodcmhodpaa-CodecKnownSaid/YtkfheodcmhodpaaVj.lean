/- The document's reader: signed. -/
import Derived.Test.YtkfheodcmhodpaaVi
set_option linter.unusedSimpArgs false
set_option linter.unusedVariables false
namespace Go.Proofs.Ytkfheodcmhodpaa.Gm
open Go Go.RowKit
attribute [local go_sem ↓] Go.wp_at_zero Go.wp_at_succ

theorem Rs.grown {w w' : World} {R b : Nat} {v : Value} {L : List UInt8} {r : Option Nat} (h : Rs w R b v L) (hg : w.grownBy w' r) (hR : r ≠ some R) (hb : L ≠ [] → r ≠ some b) : Rs w' R b v L :=
  ⟨h.rq.grown hg hR, bs_keepq h.bs h.inb hg.size (fun hl => hg.block b (h.lt hl) (fun e => hb hl e.symm)), h.inb, h.ne, fun hl => Nat.lt_of_lt_of_le (h.lt hl) hg.size, h.len⟩
/-- Where the next byte lies. -/
theorem Rs.next {w : World} {R b : Nat} {v : Value} {D : List UInt8} (h : Rs w R b v D) (hD : D ≠ []) : ∃ o cap, v = .slice (some ⟨b, o, none⟩) D.length cap ∧ D.length ≤ cap ∧ w.cell? ⟨b, o, none⟩ = some (byteV (D.getD 0 0)) := by
  rcases h.bs with ⟨_, h1⟩ | ⟨a, cap, rfl, hc, hb⟩
  · exact absurd h1 hD
  · obtain ⟨b', o, rfl, hbl, hcc⟩ := hb hD
    have := h.inb _ _ _ rfl hD
    simp only at this
    subst this
    have hpos : 0 < D.length := by cases D with
      | nil => exact absurd rfl hD
      | cons c D => simp
    exact ⟨o, cap, rfl, hc, by have := hcc 0 hpos; rwa [Nat.add_zero] at this⟩
abbrev isI (n : Int) (u : Value) (_ : World) : Prop := u = .int .i64 n
def lenOf : Value → Nat
  | .slice _ n _ => n
  | _ => 0
theorem Rs.byte {w : World} {R b o cap m : Nat} {D : List UInt8} (h : Rs w R b (.slice (some ⟨b, o, none⟩) (m + 1) cap) D) (hD : D.length = m + 1) : (cap = 1 → Rs (w.setCell ⟨R, 0, none⟩ (.slice (some ⟨b, o, none⟩) m 0)) R b (.slice (some ⟨b, o, none⟩) m 0) (D.drop 1)) ∧ (cap ≠ 1 → Rs (w.setCell ⟨R, 0, none⟩ (.slice (some ⟨b, o + 1, none⟩) m (cap - 1))) R b (.slice (some ⟨b, o + 1, none⟩) m (cap - 1)) (D.drop 1)) := by
  rw [← hD] at h
  have h1 := fun A hA => h.drop (n := 1) (A := A) (by omega) hA
  rw [hD, Nat.add_sub_cancel] at h1
  refine ⟨fun hc => ?_, fun hc => ?_⟩
  · have := h1 _ (if_pos hc)
    rwa [hc] at this
  · exact h1 _ (if_neg hc)
theorem OwnB.byte {w : World} {base g n cap k : Nat} {G : List UInt8} {c : UInt8} (h : OwnB w base (.slice (some ⟨g, 0, none⟩) n cap) G) (hk : G[k]? = some c) : w.cell? ⟨g, k, none⟩ = some (byteV c) := by
  obtain ⟨hlt, he⟩ := List.getElem?_eq_some_iff.1 hk
  rcases h.bs with ⟨h1, _⟩ | ⟨a, cap', h1, _, h3⟩
  · cases h1
  · simp only [Value.slice.injEq, Option.some.injEq] at h1
    obtain ⟨b, o, h4, _, h5⟩ := h3 (by rintro rfl; simp at hlt)
    rw [← h1.1] at h4
    simp only [Addr.mk.injEq] at h4
    obtain ⟨rfl, rfl, _⟩ := h4
    have := h5 k hlt
    rwa [Nat.zero_add, List.getD_eq_getElem?_getD, hk] at this
theorem unfold_neg {n : Nat} (hn : n < 18446744073709551616) (h : n % 2 = 1) : unfoldI n = -((n : Int) / 2) - 1 := by
  unfold unfoldI
  rw [if_neg (by omega)]
  omega
theorem unfold_pos {n : Nat} (hn : n < 18446744073709551616) (h : ¬ n % 2 = 1) : unfoldI n = (n : Int) / 2 := by
  unfold unfoldI
  rw [if_pos (by omega)]
  omega
set_option maxHeartbeats 4000000 in
set_option maxRecDepth 20000 in
/-- The document's signed. -/
theorem rsigned_any (R b : Nat) (v : Value) (L : List UInt8) (w : World) (hS : Rs w R b v L) : Calls Try.prog 97 #[.pointer (some ⟨R, 0, none⟩)] w (RdE R b iR isI (isI 0) L w) := by
  obtain ⟨i0, ii, iz0, iz1, iz2⟩ := info_parts infoB
  have HS0 := Lib.hid hS
  have hRlt := hS.rq.lt
  have hll := hS.len
  clear hS
  go_enter Try.func97, Try.ntmps97
  go_wp2_with fail
  go_loopw [3] (fun lv wr => ∃ (k : Nat) (v' : Value), k ≤ L.length ∧ k ≤ 10 ∧ (∀ i, i < k → 128 ≤ (L.getD i 0).toNat) ∧ Hid (OwnB wr w.heap.size lv (L.take k)) ∧ Hid (Rs wr R b v' (L.drop k)) ∧ Hid (w.grownBy wr (some R))) (fun lv _ => 11 - lenOf lv)
  case atStart => exact ⟨0, v, Nat.zero_le _, by omega, fun i hi => by omega, Lib.hid (OwnB.nil _ _), HS0, Lib.hid (World.grownBy.refl _ _)⟩
  case round =>
    obtain ⟨k, v', hk, hk10, hall, HO, HS, HG⟩ := hrel
    obtain ⟨pv, capv, rfl⟩ := HO.out.form
    have hlk : (L.take k).length = k := by rw [List.length_take]; omega
    have hld : (L.drop k).length = L.length - k := by rw [List.length_drop]
    rw [hlk] at HO ⊢
    have hsz := HG.out.size
    have HO1 : Hid (wr.ownsRow w.heap.size 5 1 (.slice pv k capv) k (cellsB (L.take k))) := Lib.hid (by have h := HO.out; unfold OwnB at h; rwa [hlk] at h)
    have hrR : (Value.slice pv k capv).ownBlock ≠ some R := fun e => by have := (World.ownsRow.lt HO1.out R e).1; omega
    have hrb : ∀ g, (Value.slice pv k capv).ownBlock = some g → w.heap.size ≤ g := fun g e => (World.ownsRow.lt HO1.out g e).1
    have c1 := HS.out.rq.cell 1 (u := .bool false) rfl
    have f1 := HS.out.rq.free 1
    by_cases hkl : k < L.length
    · have hne : L.drop k ≠ [] := by intro h; rw [h] at hld; simp at hld; omega
      obtain ⟨o, cap, rfl, hcap, d0⟩ := HS.out.next hne
      obtain ⟨m, hm⟩ : ∃ m, (L.drop k).length = m + 1 := ⟨L.length - k - 1, by omega⟩
      have hcc : (L.drop k).getD 0 0 = L.getD k 0 := by rw [List.getD_eq_getElem?_getD, List.getD_eq_getElem?_getD, List.getElem?_drop, Nat.add_zero]
      obtain ⟨c, hc⟩ : ∃ c, L.getD k 0 = c := ⟨_, rfl⟩
      rw [hcc, hc] at d0
      rw [hm] at HS hcap
      have c0 := HS.out.rq.cell 0 (u := .slice (some ⟨b, o, none⟩) (m + 1) cap) rfl
      have i1 : decide ((0 : Int) < (m : Int) + 1) = true := by rw [decide_eq_true_iff]; omega
      have i2 : ((m : Int) + 1 == 0) = false := by rw [beq_eq_false_iff_ne]; omega
      by_cases h10 : k = 10
      · subst h10
        have HE := Lib.hid (rdE_no (b := b) (yes := isI) (no := isI 0) (w := w) (ir_ten hk hall) (.int .i64 0) (some ⟨b, o, none⟩) (m + 1) cap rfl (HS.out.rq.set1 true) (grown_set HG.out _))
        clear HS
        go_wp2_with fail
        go_ret
        exact HE.out
      · have i3 : ((k : Int) == 10) = false := by rw [beq_eq_false_iff_ne]; omega
        have i3n : (k == 10) = false := by rw [beq_eq_false_iff_ne]; omega
        have hb0 : b < w.heap.size := HS0.out.lt (by rintro rfl; simp at hkl)
        have htk : L.take k ++ [c] = L.take (k + 1) := by rw [List.take_succ_eq_append_getElem hkl, ← hc, List.getD_eq_getElem?_getD, List.getElem?_eq_getElem hkl]; rfl
        have HTk := Lib.hid htk
        have HCk : Hid ((L.take (k + 1))[k]? = some c) := Lib.hid (by rw [← htk, List.getElem?_append_right (by omega), hlk]; simp)
        have HHc := Lib.hid hc
        have HNe := Lib.hid hne
        have HMd := Lib.hid hm
        have HLk := Lib.hid hlk
        clear htk hc hcc hm hne hld hlk
        by_cases h8 : c.toNat < 128
        · have u1 : decide ((c.toNat : Int) < 128) = true := by simp; omega
          have hla := ir_last hkl (by omega) hall HHc.out h8
          have HEr := Lib.hid (fun (h : iR L = none) W A' n' c' (h1 : Rq W R (.slice A' n' c') false) (h2 : w.grownBy (W) (some R)) => rdE_no (b := b) (yes := isI) (no := isI 0) (w := w) h (.int .i64 0) A' n' c' rfl (h1.set1 true) (grown_set h2 _))
          by_cases k0 : 0 < k ∧ c.toNat = 0
          · rw [if_pos (.inl k0)] at hla
            have HE := Lib.hid (HEr.out hla)
            clear hla HEr
            have t1 : decide ((1 : Int) < (k : Int) + 1) = true := by rw [decide_eq_true_iff]; omega
            have t2 : ((c.toNat : Int) == 0) = true := by rw [beq_iff_eq]; omega
            go_wp2_with (at_builtin; refine wpList_append_lies _ rfl _ _ 25 rfl w.heap.size 5 i0 (.int .u8 0) 1 1 Try.underlying25 ii iz0 iz1 iz2 rfl (by decide) _ _ _ rfl (World.ownsRow.alloc HO1.out _) ⟨wr.heap.size, 0, none⟩ 1 1 (cellsB [c]) rfl rfl (news_b wr _) (cellsB_one _) (by decide) (by unfold maxLen; omega) (by omega) (by simp; omega) (wr.heap.size + 1) (by simp) ?_; intro g2 cap2 w2 hown2 hgrow2 hl2 _; have HO2 : Hid (OwnB w2 w.heap.size (.slice (some ⟨g2, 0, none⟩) (k + 1) cap2) (L.take (k + 1))) := Lib.hid (by rw [← HTk.out]; exact ownB_app hown2 (by simp [HLk.out])); have HG2 := Lib.hid (grown_new (below_one wr (.cells #[byteV c] 5)) hgrow2); have HS2 := Lib.hid (HS.out.grown HG2.out hrR (fun _ e => by have := hrb _ e; omega)); have c02 := HS2.out.rq.cell 0 (u := .slice (some ⟨b, o, none⟩) (m + 1) cap) rfl; have f02 := HS2.out.rq.free 0; have c12 := HS2.out.rq.cell 1 (u := .bool false) rfl; have f12 := HS2.out.rq.free 1; have s7 := fun V => OwnB.byte (OwnB.setOther HO2.out HS2.out.rq (i := 0) (by decide) V) (k := k) (c := c) HCk.out; clear hown2 hgrow2 hl2)
            all_goals
              go_ret
              exact HE.out _ _ _ _ (HS2.out.rq.set0 _) (grown_set (grown_then HG.out HG2.out (.inr hrb)) _)
          · by_cases k9 : k = 9 ∧ 1 < c.toNat
            · rw [if_pos (.inr k9)] at hla
              have HE := Lib.hid (HEr.out hla)
              clear hla HEr
              have t1 : decide ((1 : Int) < (k : Int) + 1) = true := by rw [decide_eq_true_iff]; omega
              have t2 : ((c.toNat : Int) == 0) = false := by rw [beq_eq_false_iff_ne]; omega
              have t3 : ((k : Int) + 1 == 10) = true := by rw [beq_iff_eq]; omega
              have t4 : decide ((1 : Int) < (c.toNat : Int)) = true := by rw [decide_eq_true_iff]; omega
              clear k9 k0
              go_wp2_with (at_builtin; refine wpList_append_lies _ rfl _ _ 25 rfl w.heap.size 5 i0 (.int .u8 0) 1 1 Try.underlying25 ii iz0 iz1 iz2 rfl (by decide) _ _ _ rfl (World.ownsRow.alloc HO1.out _) ⟨wr.heap.size, 0, none⟩ 1 1 (cellsB [c]) rfl rfl (news_b wr _) (cellsB_one _) (by decide) (by unfold maxLen; omega) (by omega) (by simp; omega) (wr.heap.size + 1) (by simp) ?_; intro g2 cap2 w2 hown2 hgrow2 hl2 _; have HO2 : Hid (OwnB w2 w.heap.size (.slice (some ⟨g2, 0, none⟩) (k + 1) cap2) (L.take (k + 1))) := Lib.hid (by rw [← HTk.out]; exact ownB_app hown2 (by simp [HLk.out])); have HG2 := Lib.hid (grown_new (below_one wr (.cells #[byteV c] 5)) hgrow2); have HS2 := Lib.hid (HS.out.grown HG2.out hrR (fun _ e => by have := hrb _ e; omega)); have c02 := HS2.out.rq.cell 0 (u := .slice (some ⟨b, o, none⟩) (m + 1) cap) rfl; have f02 := HS2.out.rq.free 0; have c12 := HS2.out.rq.cell 1 (u := .bool false) rfl; have f12 := HS2.out.rq.free 1; have s7 := fun V => OwnB.byte (OwnB.setOther HO2.out HS2.out.rq (i := 0) (by decide) V) (k := k) (c := c) HCk.out; clear hown2 hgrow2 hl2)
              all_goals
                go_ret
                exact HE.out _ _ _ _ (HS2.out.rq.set0 _) (grown_set (grown_then HG.out HG2.out (.inr hrb)) _)
            · rw [if_neg (by rintro (h | h); exact k0 h; exact k9 h)] at hla
              have hfit := ir_fits hkl (by omega) hall HHc.out h8 (by rintro (h | h); exact k0 h; exact k9 h)
              have HF := Lib.hid hfit
              have HLa := Lib.hid hla
              have HLn : Hid ((L.take (k + 1)).length = k + 1) := Lib.hid (by rw [List.length_take]; omega)
              clear HEr hfit hla
              by_cases h0 : 0 < k
              · have t1 : decide ((1 : Int) < (k : Int) + 1) = true := by rw [decide_eq_true_iff]; omega
                have t2 : ((c.toNat : Int) == 0) = false := by rw [beq_eq_false_iff_ne]; omega
                by_cases h9 : k = 9
                · have t3 : ((k : Int) + 1 == 10) = true := by rw [beq_iff_eq]; omega
                  have t4 : decide ((1 : Int) < (c.toNat : Int)) = false := by rw [decide_eq_false_iff_not]; omega
                  clear k9 k0 h9
                  go_wp2_with (at_builtin; refine wpList_append_lies _ rfl _ _ 25 rfl w.heap.size 5 i0 (.int .u8 0) 1 1 Try.underlying25 ii iz0 iz1 iz2 rfl (by decide) _ _ _ rfl (World.ownsRow.alloc HO1.out _) ⟨wr.heap.size, 0, none⟩ 1 1 (cellsB [c]) rfl rfl (news_b wr _) (cellsB_one _) (by decide) (by unfold maxLen; omega) (by omega) (by simp; omega) (wr.heap.size + 1) (by simp) ?_; intro g2 cap2 w2 hown2 hgrow2 hl2 _; have HO2 : Hid (OwnB w2 w.heap.size (.slice (some ⟨g2, 0, none⟩) (k + 1) cap2) (L.take (k + 1))) := Lib.hid (by rw [← HTk.out]; exact ownB_app hown2 (by simp [HLk.out])); have HG2 := Lib.hid (grown_new (below_one wr (.cells #[byteV c] 5)) hgrow2); have HS2 := Lib.hid (HS.out.grown HG2.out hrR (fun _ e => by have := hrb _ e; omega)); have c02 := HS2.out.rq.cell 0 (u := .slice (some ⟨b, o, none⟩) (m + 1) cap) rfl; have f02 := HS2.out.rq.free 0; have c12 := HS2.out.rq.cell 1 (u := .bool false) rfl; have f12 := HS2.out.rq.free 1; have s7 := fun V => OwnB.byte (OwnB.setOther HO2.out HS2.out.rq (i := 0) (by decide) V) (k := k) (c := c) HCk.out; clear hown2 hgrow2 hl2)
                  all_goals
                    have hc2 : ∀ i, i ≤ k → ∀ V, (w2.setCell ⟨R, 0, none⟩ V).cell? ⟨g2, i, none⟩ = some (byteV ((L.take (k + 1)).getD i 0)) := fun i hi V => OwnB.byte (OwnB.setOther HO2.out HS2.out.rq (i := 0) (by decide) V) (by rw [List.getD_eq_getElem?_getD, List.getElem?_eq_getElem (by rw [HLn.out]; omega)]; rfl)
                    have HN := Lib.hid (HS2.out.byte HMd.out)
                    have HG3 := Lib.hid (grown_then HG.out HG2.out (.inr hrb))
                    rw [List.drop_drop] at HN
                    clear s7 c02 f02 c12 f12 c0 c1 f1 d0
                    first
                      | (have HX := Lib.hid (HN.out.2 (by assumption)); have HQ := Lib.hid (grown_set (i := 0) HG3.out (.slice (some ⟨b, o + 1, none⟩) m (cap - 1))); have HC := Lib.hid (fun i hi => hc2 i hi (.slice (some ⟨b, o + 1, none⟩) m (cap - 1))); obtain ⟨W3, hW3⟩ : ∃ W3, w2.setCell ⟨R, 0, none⟩ (.slice (some ⟨b, o + 1, none⟩) m (cap - 1)) = W3 := ⟨_, rfl⟩; rw [hW3] at HX HQ HC ⊢; clear hW3)
                      | (have HX := Lib.hid (HN.out.1 (by assumption)); have HQ := Lib.hid (grown_set (i := 0) HG3.out (.slice (some ⟨b, o, none⟩) m 0)); have HC := Lib.hid (fun i hi => hc2 i hi (.slice (some ⟨b, o, none⟩) m 0)); obtain ⟨W3, hW3⟩ : ∃ W3, w2.setCell ⟨R, 0, none⟩ (.slice (some ⟨b, o, none⟩) m 0) = W3 := ⟨_, rfl⟩; rw [hW3] at HX HQ HC ⊢; clear hW3)
                    clear hc2 HN HG3
                    obtain ⟨G, hG⟩ : ∃ G, L.take (k + 1) = G := ⟨_, rfl⟩
                    rw [hG] at HF HLn HLa HC
                    have HE := Lib.hid (fun u W v' (h1 : u = Value.int .i64 (unfoldI (valG G))) (h2 : Rs W R b v' (L.drop (k + 1))) (h3 : w.grownBy W (some R)) => rdE_yes (b := b) (R := R) (w := w) (w' := W) (yes := isI) (no := isI 0) HLa.out u v' h1 h2 h3)
                    clear hG HLa
                    have HEE := Lib.hid (fun u h1 => HE.out u W3 _ h1 HX.out HQ.out)
                    clear HE HX HQ
                    go_loopw [5, 6] (fun nv iv wq => ∃ j : Nat, j ≤ k + 1 ∧ nv = .int .u64 ((valG (G.drop j) : Nat) : Int) ∧ iv = .int .i64 ((j : Int) - 1) ∧ wq = W3) (fun _ iv _ => (intOf iv + 1).toNat)
                    case atStart => exact ⟨k + 1, Nat.le_refl _, by rw [List.drop_eq_nil_of_le (by rw [HLn.out]; omega)]; rfl, by rw [show (((k + 1 : Nat) : Int) - 1) = (k : Int) by omega], rfl⟩
                    case round =>
                      obtain ⟨j, hj, rfl, rfl, rfl⟩ := hrel
                      cases j with
                      | zero =>
                        have hF := HF.out
                        rw [List.drop_zero]
                        obtain ⟨n, hn⟩ : ∃ n, valG G = n := ⟨_, rfl⟩
                        rw [hn] at hF HEE ⊢
                        rw [show (((0 : Nat) : Int) - 1) = -1 by omega]
                        clear hn HF
                        by_cases h2 : n % 2 = 1
                        · have s1 : ((n : Int) % 2 == 1) = true := by rw [beq_iff_eq]; omega
                          have HU : Hid (unfoldI n = -((n : Int) / 2) - 1) := Lib.hid (unfold_neg hF h2)
                          clear h2
                          go_wp2_with fail
                          go_ret
                          exact HEE.out _ (by rw [HU.out]; rfl)
                        · have s1 : ((n : Int) % 2 == 1) = false := by rw [beq_eq_false_iff_ne]; omega
                          have HU : Hid (unfoldI n = (n : Int) / 2) := Lib.hid (unfold_pos hF h2)
                          clear h2
                          go_wp2_with fail
                          go_ret
                          exact HEE.out _ (by rw [HU.out]; rfl)
                      | succ j =>
                        have hjG : j < G.length := by rw [HLn.out]; omega
                        have r0 := HC.out j (by omega)
                        have hst := sign_step hjG HF.out
                        rw [show (((j + 1 : Nat) : Int) - 1) = (j : Int) by omega]
                        obtain ⟨d, hd⟩ : ∃ d, G.getD j 0 = d := ⟨_, rfl⟩
                        rw [hd] at r0 hst
                        obtain ⟨x, hx⟩ : ∃ x, valG (G.drop (j + 1)) = x := ⟨_, rfl⟩
                        rw [hx] at hst ⊢
                        have i4 : decide ((0 : Int) ≤ (j : Int)) = true := by simp
                        clear hx hd
                        go_wp2_with fail
                        go_roundw
                        case rel => refine ⟨j, by omega, ?_⟩; simp
                        case measure => simp [intOf]
                · have t3 : ((k : Int) + 1 == 10) = false := by rw [beq_eq_false_iff_ne]; omega
                  clear k9 k0 h9
                  go_wp2_with (at_builtin; refine wpList_append_lies _ rfl _ _ 25 rfl w.heap.size 5 i0 (.int .u8 0) 1 1 Try.underlying25 ii iz0 iz1 iz2 rfl (by decide) _ _ _ rfl (World.ownsRow.alloc HO1.out _) ⟨wr.heap.size, 0, none⟩ 1 1 (cellsB [c]) rfl rfl (news_b wr _) (cellsB_one _) (by decide) (by unfold maxLen; omega) (by omega) (by simp; omega) (wr.heap.size + 1) (by simp) ?_; intro g2 cap2 w2 hown2 hgrow2 hl2 _; have HO2 : Hid (OwnB w2 w.heap.size (.slice (some ⟨g2, 0, none⟩) (k + 1) cap2) (L.take (k + 1))) := Lib.hid (by rw [← HTk.out]; exact ownB_app hown2 (by simp [HLk.out])); have HG2 := Lib.hid (grown_new (below_one wr (.cells #[byteV c] 5)) hgrow2); have HS2 := Lib.hid (HS.out.grown HG2.out hrR (fun _ e => by have := hrb _ e; omega)); have c02 := HS2.out.rq.cell 0 (u := .slice (some ⟨b, o, none⟩) (m + 1) cap) rfl; have f02 := HS2.out.rq.free 0; have c12 := HS2.out.rq.cell 1 (u := .bool false) rfl; have f12 := HS2.out.rq.free 1; have s7 := fun V => OwnB.byte (OwnB.setOther HO2.out HS2.out.rq (i := 0) (by decide) V) (k := k) (c := c) HCk.out; clear hown2 hgrow2 hl2)
                  all_goals
                    have hc2 : ∀ i, i ≤ k → ∀ V, (w2.setCell ⟨R, 0, none⟩ V).cell? ⟨g2, i, none⟩ = some (byteV ((L.take (k + 1)).getD i 0)) := fun i hi V => OwnB.byte (OwnB.setOther HO2.out HS2.out.rq (i := 0) (by decide) V) (by rw [List.getD_eq_getElem?_getD, List.getElem?_eq_getElem (by rw [HLn.out]; omega)]; rfl)
                    have HN := Lib.hid (HS2.out.byte HMd.out)
                    have HG3 := Lib.hid (grown_then HG.out HG2.out (.inr hrb))
                    rw [List.drop_drop] at HN
                    clear s7 c02 f02 c12 f12 c0 c1 f1 d0
                    first
                      | (have HX := Lib.hid (HN.out.2 (by assumption)); have HQ := Lib.hid (grown_set (i := 0) HG3.out (.slice (some ⟨b, o + 1, none⟩) m (cap - 1))); have HC := Lib.hid (fun i hi => hc2 i hi (.slice (some ⟨b, o + 1, none⟩) m (cap - 1))); obtain ⟨W3, hW3⟩ : ∃ W3, w2.setCell ⟨R, 0, none⟩ (.slice (some ⟨b, o + 1, none⟩) m (cap - 1)) = W3 := ⟨_, rfl⟩; rw [hW3] at HX HQ HC ⊢; clear hW3)
                      | (have HX := Lib.hid (HN.out.1 (by assumption)); have HQ := Lib.hid (grown_set (i := 0) HG3.out (.slice (some ⟨b, o, none⟩) m 0)); have HC := Lib.hid (fun i hi => hc2 i hi (.slice (some ⟨b, o, none⟩) m 0)); obtain ⟨W3, hW3⟩ : ∃ W3, w2.setCell ⟨R, 0, none⟩ (.slice (some ⟨b, o, none⟩) m 0) = W3 := ⟨_, rfl⟩; rw [hW3] at HX HQ HC ⊢; clear hW3)
                    clear hc2 HN HG3
                    obtain ⟨G, hG⟩ : ∃ G, L.take (k + 1) = G := ⟨_, rfl⟩
                    rw [hG] at HF HLn HLa HC
                    have HE := Lib.hid (fun u W v' (h1 : u = Value.int .i64 (unfoldI (valG G))) (h2 : Rs W R b v' (L.drop (k + 1))) (h3 : w.grownBy W (some R)) => rdE_yes (b := b) (R := R) (w := w) (w' := W) (yes := isI) (no := isI 0) HLa.out u v' h1 h2 h3)
                    clear hG HLa
                    have HEE := Lib.hid (fun u h1 => HE.out u W3 _ h1 HX.out HQ.out)
                    clear HE HX HQ
                    go_loopw [5, 6] (fun nv iv wq => ∃ j : Nat, j ≤ k + 1 ∧ nv = .int .u64 ((valG (G.drop j) : Nat) : Int) ∧ iv = .int .i64 ((j : Int) - 1) ∧ wq = W3) (fun _ iv _ => (intOf iv + 1).toNat)
                    case atStart => exact ⟨k + 1, Nat.le_refl _, by rw [List.drop_eq_nil_of_le (by rw [HLn.out]; omega)]; rfl, by rw [show (((k + 1 : Nat) : Int) - 1) = (k : Int) by omega], rfl⟩
                    case round =>
                      obtain ⟨j, hj, rfl, rfl, rfl⟩ := hrel
                      cases j with
                      | zero =>
                        have hF := HF.out
                        rw [List.drop_zero]
                        obtain ⟨n, hn⟩ : ∃ n, valG G = n := ⟨_, rfl⟩
                        rw [hn] at hF HEE ⊢
                        rw [show (((0 : Nat) : Int) - 1) = -1 by omega]
                        clear hn HF
                        by_cases h2 : n % 2 = 1
                        · have s1 : ((n : Int) % 2 == 1) = true := by rw [beq_iff_eq]; omega
                          have HU : Hid (unfoldI n = -((n : Int) / 2) - 1) := Lib.hid (unfold_neg hF h2)
                          clear h2
                          go_wp2_with fail
                          go_ret
                          exact HEE.out _ (by rw [HU.out]; rfl)
                        · have s1 : ((n : Int) % 2 == 1) = false := by rw [beq_eq_false_iff_ne]; omega
                          have HU : Hid (unfoldI n = (n : Int) / 2) := Lib.hid (unfold_pos hF h2)
                          clear h2
                          go_wp2_with fail
                          go_ret
                          exact HEE.out _ (by rw [HU.out]; rfl)
                      | succ j =>
                        have hjG : j < G.length := by rw [HLn.out]; omega
                        have r0 := HC.out j (by omega)
                        have hst := sign_step hjG HF.out
                        rw [show (((j + 1 : Nat) : Int) - 1) = (j : Int) by omega]
                        obtain ⟨d, hd⟩ : ∃ d, G.getD j 0 = d := ⟨_, rfl⟩
                        rw [hd] at r0 hst
                        obtain ⟨x, hx⟩ : ∃ x, valG (G.drop (j + 1)) = x := ⟨_, rfl⟩
                        rw [hx] at hst ⊢
                        have i4 : decide ((0 : Int) ≤ (j : Int)) = true := by simp
                        clear hx hd
                        go_wp2_with fail
                        go_roundw
                        case rel => refine ⟨j, by omega, ?_⟩; simp
                        case measure => simp [intOf]
              · have t1 : decide ((1 : Int) < (k : Int) + 1) = false := by rw [decide_eq_false_iff_not]; omega
                have t3 : ((k : Int) + 1 == 10) = false := by rw [beq_eq_false_iff_ne]; omega
                clear k9 k0 h0
                go_wp2_with (at_builtin; refine wpList_append_lies _ rfl _ _ 25 rfl w.heap.size 5 i0 (.int .u8 0) 1 1 Try.underlying25 ii iz0 iz1 iz2 rfl (by decide) _ _ _ rfl (World.ownsRow.alloc HO1.out _) ⟨wr.heap.size, 0, none⟩ 1 1 (cellsB [c]) rfl rfl (news_b wr _) (cellsB_one _) (by decide) (by unfold maxLen; omega) (by omega) (by simp; omega) (wr.heap.size + 1) (by simp) ?_; intro g2 cap2 w2 hown2 hgrow2 hl2 _; have HO2 : Hid (OwnB w2 w.heap.size (.slice (some ⟨g2, 0, none⟩) (k + 1) cap2) (L.take (k + 1))) := Lib.hid (by rw [← HTk.out]; exact ownB_app hown2 (by simp [HLk.out])); have HG2 := Lib.hid (grown_new (below_one wr (.cells #[byteV c] 5)) hgrow2); have HS2 := Lib.hid (HS.out.grown HG2.out hrR (fun _ e => by have := hrb _ e; omega)); have c02 := HS2.out.rq.cell 0 (u := .slice (some ⟨b, o, none⟩) (m + 1) cap) rfl; have f02 := HS2.out.rq.free 0; have c12 := HS2.out.rq.cell 1 (u := .bool false) rfl; have f12 := HS2.out.rq.free 1; have s7 := fun V => OwnB.byte (OwnB.setOther HO2.out HS2.out.rq (i := 0) (by decide) V) (k := k) (c := c) HCk.out; clear hown2 hgrow2 hl2)
                all_goals
                  have hc2 : ∀ i, i ≤ k → ∀ V, (w2.setCell ⟨R, 0, none⟩ V).cell? ⟨g2, i, none⟩ = some (byteV ((L.take (k + 1)).getD i 0)) := fun i hi V => OwnB.byte (OwnB.setOther HO2.out HS2.out.rq (i := 0) (by decide) V) (by rw [List.getD_eq_getElem?_getD, List.getElem?_eq_getElem (by rw [HLn.out]; omega)]; rfl)
                  have HN := Lib.hid (HS2.out.byte HMd.out)
                  have HG3 := Lib.hid (grown_then HG.out HG2.out (.inr hrb))
                  rw [List.drop_drop] at HN
                  clear s7 c02 f02 c12 f12 c0 c1 f1 d0
                  first
                    | (have HX := Lib.hid (HN.out.2 (by assumption)); have HQ := Lib.hid (grown_set (i := 0) HG3.out (.slice (some ⟨b, o + 1, none⟩) m (cap - 1))); have HC := Lib.hid (fun i hi => hc2 i hi (.slice (some ⟨b, o + 1, none⟩) m (cap - 1))); obtain ⟨W3, hW3⟩ : ∃ W3, w2.setCell ⟨R, 0, none⟩ (.slice (some ⟨b, o + 1, none⟩) m (cap - 1)) = W3 := ⟨_, rfl⟩; rw [hW3] at HX HQ HC ⊢; clear hW3)
                    | (have HX := Lib.hid (HN.out.1 (by assumption)); have HQ := Lib.hid (grown_set (i := 0) HG3.out (.slice (some ⟨b, o, none⟩) m 0)); have HC := Lib.hid (fun i hi => hc2 i hi (.slice (some ⟨b, o, none⟩) m 0)); obtain ⟨W3, hW3⟩ : ∃ W3, w2.setCell ⟨R, 0, none⟩ (.slice (some ⟨b, o, none⟩) m 0) = W3 := ⟨_, rfl⟩; rw [hW3] at HX HQ HC ⊢; clear hW3)
                  clear hc2 HN HG3
                  obtain ⟨G, hG⟩ : ∃ G, L.take (k + 1) = G := ⟨_, rfl⟩
                  rw [hG] at HF HLn HLa HC
                  have HE := Lib.hid (fun u W v' (h1 : u = Value.int .i64 (unfoldI (valG G))) (h2 : Rs W R b v' (L.drop (k + 1))) (h3 : w.grownBy W (some R)) => rdE_yes (b := b) (R := R) (w := w) (w' := W) (yes := isI) (no := isI 0) HLa.out u v' h1 h2 h3)
                  clear hG HLa
                  have HEE := Lib.hid (fun u h1 => HE.out u W3 _ h1 HX.out HQ.out)
                  clear HE HX HQ
                  go_loopw [5, 6] (fun nv iv wq => ∃ j : Nat, j ≤ k + 1 ∧ nv = .int .u64 ((valG (G.drop j) : Nat) : Int) ∧ iv = .int .i64 ((j : Int) - 1) ∧ wq = W3) (fun _ iv _ => (intOf iv + 1).toNat)
                  case atStart => exact ⟨k + 1, Nat.le_refl _, by rw [List.drop_eq_nil_of_le (by rw [HLn.out]; omega)]; rfl, by rw [show (((k + 1 : Nat) : Int) - 1) = (k : Int) by omega], rfl⟩
                  case round =>
                    obtain ⟨j, hj, rfl, rfl, rfl⟩ := hrel
                    cases j with
                    | zero =>
                      have hF := HF.out
                      rw [List.drop_zero]
                      obtain ⟨n, hn⟩ : ∃ n, valG G = n := ⟨_, rfl⟩
                      rw [hn] at hF HEE ⊢
                      rw [show (((0 : Nat) : Int) - 1) = -1 by omega]
                      clear hn HF
                      by_cases h2 : n % 2 = 1
                      · have s1 : ((n : Int) % 2 == 1) = true := by rw [beq_iff_eq]; omega
                        have HU : Hid (unfoldI n = -((n : Int) / 2) - 1) := Lib.hid (unfold_neg hF h2)
                        clear h2
                        go_wp2_with fail
                        go_ret
                        exact HEE.out _ (by rw [HU.out]; rfl)
                      · have s1 : ((n : Int) % 2 == 1) = false := by rw [beq_eq_false_iff_ne]; omega
                        have HU : Hid (unfoldI n = (n : Int) / 2) := Lib.hid (unfold_pos hF h2)
                        clear h2
                        go_wp2_with fail
                        go_ret
                        exact HEE.out _ (by rw [HU.out]; rfl)
                    | succ j =>
                      have hjG : j < G.length := by rw [HLn.out]; omega
                      have r0 := HC.out j (by omega)
                      have hst := sign_step hjG HF.out
                      rw [show (((j + 1 : Nat) : Int) - 1) = (j : Int) by omega]
                      obtain ⟨d, hd⟩ : ∃ d, G.getD j 0 = d := ⟨_, rfl⟩
                      rw [hd] at r0 hst
                      obtain ⟨x, hx⟩ : ∃ x, valG (G.drop (j + 1)) = x := ⟨_, rfl⟩
                      rw [hx] at hst ⊢
                      have i4 : decide ((0 : Int) ≤ (j : Int)) = true := by simp
                      clear hx hd
                      go_wp2_with fail
                      go_roundw
                      case rel => refine ⟨j, by omega, ?_⟩; simp
                      case measure => simp [intOf]
        · have u1 : decide ((c.toNat : Int) < 128) = false := by simp; omega
          go_wp2_with (at_builtin; refine wpList_append_lies _ rfl _ _ 25 rfl w.heap.size 5 i0 (.int .u8 0) 1 1 Try.underlying25 ii iz0 iz1 iz2 rfl (by decide) _ _ _ rfl (World.ownsRow.alloc HO1.out _) ⟨wr.heap.size, 0, none⟩ 1 1 (cellsB [c]) rfl rfl (news_b wr _) (cellsB_one _) (by decide) (by unfold maxLen; omega) (by omega) (by simp; omega) (wr.heap.size + 1) (by simp) ?_; intro g2 cap2 w2 hown2 hgrow2 hl2 _; have HO2 : Hid (OwnB w2 w.heap.size (.slice (some ⟨g2, 0, none⟩) (k + 1) cap2) (L.take (k + 1))) := Lib.hid (by rw [← HTk.out]; exact ownB_app hown2 (by simp [HLk.out])); have HG2 := Lib.hid (grown_new (below_one wr (.cells #[byteV c] 5)) hgrow2); have HS2 := Lib.hid (HS.out.grown HG2.out hrR (fun _ e => by have := hrb _ e; omega)); have c02 := HS2.out.rq.cell 0 (u := .slice (some ⟨b, o, none⟩) (m + 1) cap) rfl; have f02 := HS2.out.rq.free 0; have c12 := HS2.out.rq.cell 1 (u := .bool false) rfl; have f12 := HS2.out.rq.free 1; have s7 := fun V => OwnB.byte (OwnB.setOther HO2.out HS2.out.rq (i := 0) (by decide) V) (k := k) (c := c) HCk.out; clear hown2 hgrow2 hl2)
          have HN := Lib.hid (HS2.out.byte HMd.out)
          have HG3 := Lib.hid (grown_then HG.out HG2.out (.inr hrb))
          rw [List.drop_drop] at HN
          go_roundw
          case rel =>
            have hal : ∀ i, i < k + 1 → 128 ≤ (L.getD i 0).toNat := fun i hi => by
              by_cases he : i < k
              · exact hall i he
              · have : i = k := by omega
                subst this; rw [HHc.out]; omega
            by_cases hcc : cap = 1
            · rw [if_pos hcc, hcc]
              exact ⟨k + 1, _, by omega, by omega, hal, Lib.hid (OwnB.setOther HO2.out HS2.out.rq (by decide) _), Lib.hid (HN.out.1 hcc), Lib.hid (grown_set HG3.out _)⟩
            · rw [if_neg hcc]
              exact ⟨k + 1, _, by omega, by omega, hal, Lib.hid (OwnB.setOther HO2.out HS2.out.rq (by decide) _), Lib.hid (HN.out.2 hcc), Lib.hid (grown_set HG3.out _)⟩
          case measure => simp only [lenOf]; omega
    · have hkL : k = L.length := by omega
      have hD : L.drop k = [] := List.drop_eq_nil_of_le (by omega)
      rw [hD] at HS
      obtain ⟨p, cap, rfl⟩ := HS.out.bs.form
      have c0 := HS.out.rq.cell 0 (u := .slice p 0 cap) rfl
      have HE := Lib.hid (rdE_no (b := b) (yes := isI) (no := isI 0) (w := w) (ir_none (nr_end hkL hall)) (.int .i64 0) p 0 cap rfl (HS.out.rq.set1 true) (grown_set HG.out _))
      clear HS
      go_wp2_with fail
      go_ret
      exact HE.out
set_option maxHeartbeats 4000000 in
set_option maxRecDepth 20000 in
theorem rsigned_bad (R : Nat) (p : Option Addr) (n cap : Nat) (w : World) (hR : Rq w R (.slice p n cap) true) : Calls Try.prog 97 #[.pointer (some ⟨R, 0, none⟩)] w fun e w' => e = .returned (.int .i64 0) ∧ Rq w' R (.slice p n cap) true ∧ w.grownBy w' (some R) := by
  have c0 := hR.cell 0 (u := .slice p n cap) rfl
  have c1 := hR.cell 1 (u := .bool true) rfl
  have f1 := hR.free 1
  have HE := Lib.hid (And.intro (hR.set1 true) (grown_set (i := 1) (World.grownBy.refl w (some R)) (.bool true)))
  clear hR
  go_enter Try.func97, Try.ntmps97
  go_wp2_with fail
  go_loopw [3] (fun lv wr => lv = .slice none 0 0 ∧ wr = w) (fun _ _ => 0)
  case atStart => exact ⟨rfl, rfl⟩
  case round =>
    obtain ⟨rfl, rfl⟩ := hrel
    go_wp2_with fail
    go_ret
    exact ⟨rfl, HE.out.1, HE.out.2⟩
/-- signed, of a reader good or bad. -/
theorem rsignedX (R b : Nat) (o : Option (List UInt8)) (w : World) (hS : Rx w R b o) : Calls Try.prog 97 #[.pointer (some ⟨R, 0, none⟩)] w (RdX R b (o.bind iR) retI w) := by
  cases o with
  | none =>
    obtain ⟨p, n, c, h⟩ := hS
    exact (rsigned_bad R p n c w h).mono (by rintro e w' ⟨rfl, h1, h2⟩; exact ⟨_, rfl, rfl, ⟨p, n, c, h1⟩, h2⟩)
  | some L =>
    obtain ⟨v, h⟩ := hS
    exact (rsigned_any R b v L w h).mono (by rintro e w' h1; exact h1.x (fun x u W h => h) (fun u W h => h))
end Go.Proofs.Ytkfheodcmhodpaa.Gm
