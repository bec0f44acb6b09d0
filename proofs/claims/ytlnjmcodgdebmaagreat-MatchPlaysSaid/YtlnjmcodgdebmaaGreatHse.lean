/- Layer 8: the program's index and the document's, side by side: both called with the same things. -/
import Derived.Test.YtlnjmcodgdebmaaGreatHsb
import Derived.Test.YtlnjmcodgdebmaaGreatHrj
import Derived.Test.YtlnjmcodgdebmaaGreatHw
import Derived.Test.YtlnjmcodgdebmaaGreatHl
import Derived.Test.YtlnjmcodgdebmaaGreatHre
import Derived.Test.YtlnjmcodgdebmaaGreatHu
set_option linter.unusedSimpArgs false
set_option linter.unusedVariables false
namespace Go.Proofs.YtlnjmcodgdebmaaGreat.Gm
open Go Go.RowKit Go.Maps

/-- Each predicate that is in is the normal form of one. -/
def NF8 (D : List Ent) : Prop := ∀ e ∈ D, ∃ l : List Cn, e.2.map bare = sortL cmpC (l.map normC)
/-- Both indexes with the same predicates; blocks of others. -/
structure Pair8 (K : List Nat) (Bs x bp bn g t np nn : Nat) (w : World) (Sr St : Nat → Prop) (Dp Dn : DataW Value) (D : List Ent) (F : Int → Option Value) (U : ByteArray → Value) (v : Value) (L : List Itm) (q : Itm → List Cn) : Prop where
  idx : Idx8 Bs w Sr x bp bn t np nn Dp Dn D F U
  doc : Doc8 w St g v L q
  rel : Rel8 L q D
  nf : NF8 D
  ks : ∀ k ∈ K, k < w.heap.size ∧ ¬ Sr k ∧ ¬ St k
  gb : Bs ≤ g
def Both8 (K : List Nat) (Bs x bp bn g s : Nat) (w : World) : Prop :=
  ∃ (t np nn : Nat) (Sr St : Nat → Prop) (Dp Dn : DataW Value) (D : List Ent) (F : Int → Option Value) (U : ByteArray → Value) (v : Value) (L : List Itm) (q : Itm → List Cn), t ≤ 7 * s ∧ Pair8 K Bs x bp bn g t np nn w Sr St Dp Dn D F U v L q
section
variable {K : List Nat} {Bs x bp bn g s : Nat} {w w' : World}
theorem Both8.later (h : Both8 K Bs x bp bn g s w) (hb : Below w.heap.size w w') : Both8 K Bs x bp bn g s w' := by
  obtain ⟨t, np, nn, Sr, St, Dp, Dn, D, F, U, v, L, q, ht, h⟩ := h
  exact ⟨t, np, nn, Sr, St, Dp, Dn, D, F, U, v, L, q, ht, h.idx.later hb, h.doc.later hb, h.rel, h.nf, fun k hk => ⟨Nat.lt_of_lt_of_le (h.ks k hk).1 hb.size, (h.ks k hk).2⟩, h.gb⟩
theorem Both8.base (h : Both8 K Bs x bp bn g s w) : Bs ≤ w.heap.size := by
  obtain ⟨t, np, nn, Sr, St, Dp, Dn, D, F, U, v, L, q, ht, h⟩ := h
  exact h.idx.base.1
theorem Both8.mono (h : Both8 K Bs x bp bn g s w) {s' : Nat} (hs : s ≤ s') : Both8 K Bs x bp bn g s' w := by
  obtain ⟨t, np, nn, Sr, St, Dp, Dn, D, F, U, v, L, q, ht, h⟩ := h
  exact ⟨t, np, nn, Sr, St, Dp, Dn, D, F, U, v, L, q, by omega, h⟩
/-- What was made since is none of theirs. -/
theorem Both8.fresh (h : Both8 K Bs x bp bn g s w) (hb : Below w.heap.size w w') {K' : List Nat} (hk : ∀ k ∈ K', w.heap.size ≤ k ∧ k < w'.heap.size) : Both8 K' Bs x bp bn g s w' := by
  obtain ⟨t, np, nn, Sr, St, Dp, Dn, D, F, U, v, L, q, ht, h⟩ := h
  exact ⟨t, np, nn, Sr, St, Dp, Dn, D, F, U, v, L, q, ht, h.idx.later hb, h.doc.later hb, h.rel, h.nf, fun k hm => ⟨(hk k hm).2, fun hS => by have := h.idx.srl k hS; have := (hk k hm).1; omega, fun hS => by have := h.doc.stl k hS; have := (hk k hm).1; omega⟩, h.gb⟩
theorem Both8.drop (h : Both8 K Bs x bp bn g s w) : Both8 [] Bs x bp bn g s w := by
  obtain ⟨t, np, nn, Sr, St, Dp, Dn, D, F, U, v, L, q, ht, h⟩ := h
  exact ⟨t, np, nn, Sr, St, Dp, Dn, D, F, U, v, L, q, ht, h.idx, h.doc, h.rel, h.nf, (fun k hk => by cases hk), h.gb⟩
/-- Writes to rows of constraints of others. -/
theorem Both8.only (h : Both8 K Bs x bp bn g s w) (ho : Only K w w') (hk : ∀ k ∈ K, ∃ cs, w.heap[k]? = some (.cells cs 45 (0, 0))) : Both8 K Bs x bp bn g s w' := by
  obtain ⟨t, np, nn, Sr, St, Dp, Dn, D, F, U, v, L, q, ht, h⟩ := h
  refine ⟨t, np, nn, Sr, St, Dp, Dn, D, F, U, v, L, q, ht, h.idx.only (K := K) (fun k hm => ?_) ho, h.doc.only (K := K) (fun k hm => ?_) ho, h.rel, h.nf, fun k hm => ⟨Nat.lt_of_lt_of_le (h.ks k hm).1 ho.size, (h.ks k hm).2⟩, h.gb⟩
  · obtain ⟨cs, hc⟩ := hk k hm
    exact ⟨cs, _, _, hc, by decide, by decide, fun _ => (h.ks k hm).2.1⟩
  · obtain ⟨cs, hc⟩ := hk k hm
    exact ⟨cs, _, _, hc, by decide, by decide, fun _ => (h.ks k hm).2.2⟩
end
theorem may_name8 {l : List Cn} (h : mayPr l = true) (c : Cn) (hc : c ∈ l) : c.nm.size ≤ reachBytes := by
  unfold mayPr at h
  rw [Bool.and_eq_true] at h
  have := List.all_eq_true.1 h.2 c hc
  unfold mayCn at this
  simp only [Bool.and_eq_true, decide_eq_true_eq] at this
  have e : reachBytes = 140737488351232 := by decide
  rw [e]
  omega
theorem may_bare8 (l : List Cn) : mayPr (l.map bare) = mayPr l := by
  unfold mayPr
  rw [List.length_map, List.all_map]; rfl
theorem normC_bare8 (l : List Cn) : (l.map bare).map normC = l.map normC := by rw [List.map_map]; rfl
theorem hasOf_not {L : List Itm} {q : Itm → List Cn} {D : List Ent} (hr : Rise8 L) (h : Rel8 L q D) {id : Int} (hn : hasOf L id = false) : ∀ p, (id, p) ∉ D := fun p hp => by
  have := (rel_there hr h id).2 ⟨p, hp⟩
  rw [hn] at this; cases this
/-- Blocks that no index has for its own stay. -/
def Stay8 (w w' : World) : Prop := ∀ (k : Nat) (cs : Array Value) (t : TypeId), w.heap[k]? = some (.cells cs t (0, 0)) → t ≠ 77 → t ≠ 29 → w'.heap[k]? = w.heap[k]?
theorem Stay8.below {w w' : World} (h : Below w.heap.size w w') : Stay8 w w' := fun k cs t hc _ _ => h.block k (lt_of_block hc)
theorem Stay8.trans {a b c : World} (h : Stay8 a b) (k : Stay8 b c) : Stay8 a c := fun i cs t hc h1 h2 => (k i cs t ((h i cs t hc h1 h2).trans hc) h1 h2).trans (h i cs t hc h1 h2)
theorem Stay8.keep {B : Nat} {S : List Nat} {w w' : World} (h : Keep8 B S w w') (hS : MapsAt w S) : Stay8 w w' := fun k cs t hc h1 _ => h.block k (lt_of_block hc) (fun hm => by obtain ⟨es, c, e⟩ := hS k hm; rw [hc] at e; cases e) (.inl fun cs' fr' e => by rw [hc] at e; injection e with e; injection e with _ e; exact h1 e)
theorem Stay8.only {g : Nat} {w w' : World} {cs : Array Value} (h : Only [g] w w') (hb : Blk w g 29 cs) : Stay8 w w' := fun k cs' t hc _ h2 => h.2.2.2.2 k (lt_of_block hc) (fun hm => by
  unfold Blk at hb
  rw [List.mem_singleton.1 hm, hb] at hc
  injection hc with hc
  injection hc with _ hc
  exact h2 hc.symm)
theorem Stay8.blk {w w' : World} {g : Nat} {t : TypeId} {cs : Array Value} (h : Stay8 w w') (hb : Blk w g t cs) (h1 : t ≠ 77) (h2 : t ≠ 29) : Blk w' g t cs := (h g cs t hb h1 h2).trans hb
/-- Add of both: what the program's tells, the document's tells, and they have the same behind it. -/
def AddsBoth (K : List Nat) (Bs x bp bn g s : Nat) (id : Int) (v2 : Value) (w : World) (e : Ending) (w1 : World) : Prop :=
  ∃ c : Int, e = .returned (.int .i64 c) ∧ Below Bs w w1 ∧ Stay8 w w1 ∧
    ∀ w2, Below w1.heap.size w1 w2 → Calls Tryz.prog 9 #[.pointer (some ⟨g, 0, none⟩), .int .i64 id, v2] w2 fun e w3 => e = .returned (.int .i64 c) ∧ Below Bs w w3 ∧ Both8 K Bs x bp bn g (s + 1) w3 ∧ Stay8 w w3
section
variable {K : List Nat} {Bs x bp bn g s : Nat} {w : World}
/-- Both tell one error. -/
theorem adds_error (h : Both8 K Bs x bp bn g s w) (c : Int) (id : Int) (v1 v2 : Value) (h1 : Calls Tryz.prog 8 #[.pointer (some ⟨x, 0, none⟩), .int .i64 id, v1] w (Gives (.int .i64 c) w))
    (h2 : ∀ W, Below w.heap.size w W → Calls Tryz.prog 9 #[.pointer (some ⟨g, 0, none⟩), .int .i64 id, v2] W (Gives (.int .i64 c) W)) :
    Calls Tryz.prog 8 #[.pointer (some ⟨x, 0, none⟩), .int .i64 id, v1] w (AddsBoth K Bs x bp bn g s id v2 w) := by
  refine h1.mono fun e w1 ⟨he, b1⟩ => ?_
  refine ⟨c, he, b1.mono h.base, Stay8.below b1, fun w2 b2 => (h2 w2 (then_ b1 b2)).mono fun e w3 ⟨he, b3⟩ => ?_⟩
  have b := then_ (then_ b1 b2) b3
  exact ⟨he, b.mono h.base, (h.later b).mono (Nat.le_succ _), Stay8.below b⟩
set_option maxHeartbeats 2000000 in
theorem adds_both (h : Both8 K Bs x bp bn g s w) (hs : s ≤ 1000) (id : Int) (hwf : (Lit.int .i64 id).wf = true) (v1 v2 : Value) (l1 l2 : List Cn) (hl : l1.map bare = l2.map bare) (h1 : Cs w v1 l1) (W0 : World) (h2 : Cs W0 v2 l2) (hW : Below Bs W0 w) (hW0 : W0.heap.size = Bs) :
    Calls Tryz.prog 8 #[.pointer (some ⟨x, 0, none⟩), .int .i64 id, v1] w (AddsBoth K Bs x bp bn g s id v2 w) := by
  have h0 := h
  obtain ⟨t, np, nn, Sr, St, Dp, Dn, D, F, U, v, L, q, ht, h⟩ := h
  have hm12 : mayPr l1 = mayPr l2 := by rw [← may_bare8 l1, hl, may_bare8]
  have hC2 : ∀ W, Below Bs w W → Cs W v2 l2 := fun W hb => h2.later (by rw [hW0]; exact hW.trans hb)
  have hB := h.idx.base.1
  obtain ⟨p1, c1, rfl⟩ := h1.1.form
  by_cases hid : id < 0
  · obtain ⟨p2, c2, rfl⟩ := h2.1.form
    exact adds_error h0 1 id _ _ (add_neg x bp bn id _ w p1 _ c1 rfl h.idx.two hid) (fun W _ => radd_neg g id _ W hid)
  have hid : 0 ≤ id := by omega
  cases hm : mayPr l1 with
  | false => exact adds_error h0 30 id _ _ (add_bad x bp bn id _ l1 w h.idx.two hid h1 hm) (fun W hb => radd_mal g id _ l2 W hid (hC2 W (hb.mono hB)) (hm12 ▸ hm))
  | true =>
    have hm2 : mayPr l2 = true := hm12 ▸ hm
    cases hn : hasOf L id with
    | true =>
      obtain ⟨p, hp⟩ := (rel_there h.doc.rise h.rel id).1 hn
      exact adds_error h0 9 id _ _ (add_there Sr x bp bn t np nn Dp Dn D F U id hid hwf _ l1 w h.idx h1 hm p hp) (fun W hb => radd_there g v L id _ l2 W (h.doc.ref.later hb) hid (hC2 W (hb.mono hB)) hm2 hn)
    | false =>
      have hnot := hasOf_not h.doc.rise h.rel hn
      have hlen := rel_len h.rel
      by_cases hf : D.length < 256
      · refine (add_ok Sr x bp bn t np nn Dp Dn D F U id hid hwf _ l1 w h.idx (by omega) h1 hm hnot hf).mono fun e w1 hr => ?_
        obtain ⟨he, r, Sr', np', nn', Dp', Dn', F', U', hI, hr, hrl, hK, hS⟩ := hr
        have hb1 : Below Bs w w1 := hK.bel hB (fun k hk => by
          simp only [List.mem_cons, List.not_mem_nil, or_false] at hk
          rcases hk with rfl | rfl
          · exact h.idx.base.2.2.1
          · exact h.idx.base.2.2.2)
        have hMaps : MapsAt w [bp, bn] := fun b hb => by
          simp only [List.mem_cons, List.not_mem_nil, or_false] at hb
          rcases hb with rfl | rfl
          · exact map_at h.idx.mp
          · exact map_at h.idx.mn
        have hkeep := Stay8.keep hK hMaps
        refine ⟨0, he, hb1, hkeep, fun w2 b2 => ?_⟩
        have hD2 := (h.doc.keep hK hMaps).later b2
        have hI2 := hI.later b2
        have hb2 : Below Bs w w2 := hb1.trans (b2.mono hI.base.1)
        refine (radd_ok g v L id v2 l2 w2 hD2.ref hid (hC2 w2 hb2) hm2 hn (by omega)).mono fun e w3 hr2 => ?_
        obtain ⟨he2, v', p', cap, r2, hR, hO, hOwn, wn, hNm⟩ := hr2
        have hb3 : Below Bs w w3 := hO.below hb2 (fun k hk => by rw [List.mem_singleton.1 hk]; exact h.gb) hI2.base.1
        have hmr : mayPr r2 = true := norm_may hNm.is hNm.len hm2
        have hDoc := hD2.add hn hR hO hOwn hmr hNm.sets
        have hIdx := hI2.only hD2.odd hO
        have hre : r2.map bare = r.map bare := by rw [hNm.is, hr, ← normC_bare8 l1, hl, normC_bare8]
        refine ⟨he2, hb3, ⟨t + 7, np', nn', Sr', _, Dp', Dn', _, F', U', v', _, _, by omega, hIdx, hDoc, rel_put h.doc.rise h.rel hn _ hre, fun e he => ?_, fun k hk => ⟨?_, fun hS' => ?_, fun hS' => ?_⟩, h.gb⟩, (hkeep.trans (Stay8.below b2)).trans (Stay8.only hO hD2.ref.blk)⟩
        · rcases List.mem_append.1 he with he | he
          · exact h.nf e he
          · rw [List.mem_singleton.1 he]; exact ⟨l1, hr⟩
        · exact Nat.lt_of_lt_of_le (h.ks k hk).1 (Nat.le_trans hK.size (Nat.le_trans b2.size hO.size))
        · rcases hS k hS' with h3 | h3
          · exact (h.ks k hk).2.1 h3
          · have := (h.ks k hk).1; omega
        · rcases hS' with h3 | h3
          · exact (h.ks k hk).2.2 h3
          · have h4 := (h.ks k hk).1
            have h5 := hK.size
            have h6 := b2.size
            omega
      · exact adds_error h0 7 id _ _ (add_full Sr x bp bn t np nn Dp Dn D F U id hid hwf _ l1 w h.idx h1 hm hnot hf) (fun W hb => radd_full g v L id _ l2 W (h.doc.ref.later hb) hid (hC2 W (hb.mono hB)) hm2 hn (by rw [hlen]; exact hf))
/-- Remove of both. -/
def RemovesBoth (Bs x bp bn g s : Nat) (id : Int) (w : World) (e : Ending) (w1 : World) : Prop :=
  ∃ c : Int, e = .returned (.int .i64 c) ∧ Below Bs w w1 ∧ Stay8 w w1 ∧
    ∀ w2, Below w1.heap.size w1 w2 → Calls Tryz.prog 11 #[.pointer (some ⟨g, 0, none⟩), .int .i64 id] w2 fun e w3 => e = .returned (.int .i64 c) ∧ Below Bs w w3 ∧ Both8 [] Bs x bp bn g (s + 1) w3 ∧ Stay8 w w3
set_option maxHeartbeats 2000000 in
theorem removes_both (h : Both8 [] Bs x bp bn g s w) (hs : s ≤ 1000) (id : Int) (hwf : (Lit.int .i64 id).wf = true) :
    Calls Tryz.prog 10 #[.pointer (some ⟨x, 0, none⟩), .int .i64 id] w (RemovesBoth Bs x bp bn g s id w) := by
  have h0 := h
  obtain ⟨t, np, nn, Sr, St, Dp, Dn, D, F, U, v, L, q, ht, h⟩ := h
  have hB := h.idx.base.1
  cases hn : hasOf L id with
  | false =>
    refine (remove_none Sr x bp bn t np nn Dp Dn D F U id hwf w h.idx (hasOf_not h.doc.rise h.rel hn)).mono fun e w1 ⟨he, b1⟩ => ?_
    refine ⟨6, he, b1.mono hB, Stay8.below b1, fun w2 b2 => (rremove_not g v L id w2 (h.doc.ref.later (then_ b1 b2)) hn).mono fun e w3 ⟨he, b3⟩ => ?_⟩
    have b := then_ (then_ b1 b2) b3
    exact ⟨he, b.mono hB, (h0.later b).mono (Nat.le_succ _), Stay8.below b⟩
  | true =>
    obtain ⟨p, hp⟩ := (rel_there h.doc.rise h.rel id).1 hn
    refine (remove_ok Sr x bp bn t np nn Dp Dn D F U id hwf w p h.idx (by omega) hp).mono fun e w1 hr => ?_
    obtain ⟨he, np', nn', Dp', Dn', F', U', hI, hK⟩ := hr
    have hb1 : Below Bs w w1 := hK.bel hB (fun k hk => by
      simp only [List.mem_cons, List.not_mem_nil, or_false] at hk
      rcases hk with rfl | rfl
      · exact h.idx.base.2.2.1
      · exact h.idx.base.2.2.2)
    have hMaps : MapsAt w [bp, bn] := fun b hb => by
      simp only [List.mem_cons, List.not_mem_nil, or_false] at hb
      rcases hb with rfl | rfl
      · exact map_at h.idx.mp
      · exact map_at h.idx.mn
    refine ⟨0, he, hb1, Stay8.keep hK hMaps, fun w2 b2 => ?_⟩
    have hD2 := (h.doc.keep hK hMaps).later b2
    have hI2 := hI.later b2
    have hb2 : Below Bs w w2 := hb1.trans (b2.mono hI.base.1)
    refine (rremove_there g v L id w2 hD2.ref hn).mono fun e w3 hr2 => ?_
    obtain ⟨he2, v', hR, hO⟩ := hr2
    have hb3 : Below Bs w w3 := hO.below hb2 (fun k hk => by rw [List.mem_singleton.1 hk]; exact h.gb) hI2.base.1
    exact ⟨he2, hb3, ⟨t + 7, np', nn', Sr, St, Dp', Dn', _, F', U', v', _, q, by omega, hI2.only hD2.odd hO, hD2.remove hn hR hO, rel_take h.doc.rise h.rel hn, fun e he => h.nf e (List.mem_filter.1 he).1, (fun k hk => by cases hk), h.gb⟩, ((Stay8.keep hK hMaps).trans (Stay8.below b2)).trans (Stay8.only hO hD2.ref.blk)⟩
/-- Match of both, and Same. -/
def MatchesBoth (Bs x bp bn g s : Nat) (key : ByteArray) (sl : Value) (w : World) (e : Ending) (w1 : World) : Prop :=
  ∃ (p1 : Option Addr) (n1 c1 : Nat), e = .returned (.slice p1 n1 c1) ∧ Below w.heap.size w w1 ∧
    ∀ w2, Below w1.heap.size w1 w2 → Calls Tryz.prog 14 #[.pointer (some ⟨g, 0, none⟩), .agg #[.string key, sl]] w2 fun e w3 => ∃ (p2 : Option Addr) (n2 c2 : Nat), e = .returned (.slice p2 n2 c2) ∧ Below w2.heap.size w2 w3 ∧
      ∀ w4, Below w3.heap.size w3 w4 → Calls Tryz.prog 12 #[.slice p1 n1 c1, .slice p2 n2 c2] w4 (Gives (.bool true) w4)
theorem matches_both (h : Both8 K Bs x bp bn g s w) (key : ByteArray) (sl : Value) (al : List At) (hE : Es w sl al) (hs : ∀ a ∈ al, a.nm.size ≤ maxLen) :
    Calls Tryz.prog 13 #[.pointer (some ⟨x, 0, none⟩), .agg #[.string key, sl]] w (MatchesBoth Bs x bp bn g s key sl w) := by
  obtain ⟨t, np, nn, Sr, St, Dp, Dn, D, F, U, v, L, q, ht, h⟩ := h
  refine (h.idx.matchC key sl al hE hs).mono fun e w1 hr => ?_
  obtain ⟨v1, he, hO, b1⟩ := hr
  rw [matched_rel h.doc.rise h.rel] at hO
  obtain ⟨p1, c1, rfl⟩ := own_shape hO
  refine ⟨p1, _, c1, he, b1, fun w2 b2 => ?_⟩
  have hD2 := h.doc.later (then_ b1 b2)
  refine (rmatch_any g v L q key sl al w2 hD2.ref hD2.cs (hE.later (then_ b1 b2))).mono fun e w3 hr2 => ?_
  obtain ⟨v2, he2, hO2, b3⟩ := hr2
  obtain ⟨p2, c2, rfl⟩ := own_shape hO2
  refine ⟨p2, _, c2, he2, b3, fun w4 b4 => ?_⟩
  have hlen : (rmatched L q al).length < 1099511627776 := by
    have h1 := rmatched_len L q al L.length
    rw [List.take_length] at h1
    have := h.doc.ref.len
    omega
  have hS := same_nums _ _ (rmatched L q al) (rmatched L q al) w4 (OwnN.row (own_later hO (then_ (then_ b2 b3) b4))) (OwnN.row (own_later hO2 b4)) hlen
  rw [show decide (rmatched L q al = rmatched L q al) = true from by simp] at hS
  exact hS
/-- Looks of both. -/
theorem looks_both (h : Both8 K Bs x bp bn g s w) (key : ByteArray) (sl : Value) (al : List At) (hE : Es w sl al) (hs : ∀ a ∈ al, a.nm.size ≤ maxLen) :
    ∃ n : Nat, (∀ W, Below w.heap.size w W → Calls Tryz.prog 15 #[.pointer (some ⟨x, 0, none⟩), .agg #[.string key, sl]] W (Gives (.int .i64 n) W)) ∧
      ∀ W, Below w.heap.size w W → Calls Tryz.prog 16 #[.pointer (some ⟨g, 0, none⟩), .agg #[.string key, sl]] W (Gives (.int .i64 n) W) := by
  obtain ⟨t, np, nn, Sr, St, Dp, Dn, D, F, U, v, L, q, ht, h⟩ := h
  refine ⟨looks D al, fun W hb => (h.idx.later hb).looksC key sl al (hE.later hb) hs, fun W hb => ?_⟩
  rw [looks_rel h.rel]
  have hD := h.doc.later hb
  exact rlooks_any g v L q key sl al W hD.ref hD.cs hD.six (hE.later hb)
/-- Get of both, and Same. -/
def GetsBoth (Bs g : Nat) (id : Int) (w : World) (e : Ending) (w1 : World) : Prop :=
  ∃ (p1 : Option Addr) (c1 : Nat) (r : List Cn) (is : Bool), e = .returned (.tuple #[.slice p1 r.length c1, .bool is]) ∧ OwnC w1 w.heap.size (.slice p1 r.length c1) r ∧ (∀ c ∈ r, c.nm.size ≤ reachBytes) ∧ Below w.heap.size w w1 ∧
    ∀ w2, Below w1.heap.size w1 w2 → Calls Tryz.prog 18 #[.pointer (some ⟨g, 0, none⟩), .int .i64 id] w2 fun e w3 => ∃ (p2 : Option Addr) (n2 c2 : Nat), e = .returned (.tuple #[.slice p2 n2 c2, .bool is]) ∧ Below w2.heap.size w2 w3 ∧
      ∀ w4, Below w3.heap.size w3 w4 → Calls Tryz.prog 19 #[.slice p1 r.length c1, .slice p2 n2 c2] w4 (Gives (.bool true) w4)
set_option maxHeartbeats 2000000 in
theorem gets_both (h : Both8 K Bs x bp bn g s w) (id : Int) (hwf : (Lit.int .i64 id).wf = true) :
    Calls Tryz.prog 17 #[.pointer (some ⟨x, 0, none⟩), .int .i64 id] w (GetsBoth Bs g id w) := by
  obtain ⟨t, np, nn, Sr, St, Dp, Dn, D, F, U, v, L, q, ht, h⟩ := h
  cases hn : hasOf L id with
  | false =>
    have hF : F id = none := by
      cases hf : F id with
      | none => rfl
      | some v => obtain ⟨p, hp⟩ := h.idx.f2 id v hf; exact absurd hp (hasOf_not h.doc.rise h.rel hn p)
    refine (get_not x bp bn np Dp F id hwf w h.idx.two h.idx.mp h.idx.pis hF).mono fun e w1 ⟨he, b1⟩ => ?_
    refine ⟨none, 0, [], false, he, OwnC.nil _ _, (fun c hc => by cases hc), b1, fun w2 b2 => (rget_not g v L id w2 (h.doc.ref.ref.later (then_ b1 b2)) hn).mono fun e w3 ⟨he, b3⟩ => ⟨none, 0, 0, he, b3, fun w4 b4 => ?_⟩⟩
    have hS := psame_any _ _ [] [] w4 (cs_nil w4) (cs_nil w4)
    rw [show decide (cmpL cmpC ([] : List Cn) [] = 0) = true from by rw [same_bare rfl]; rfl] at hS
    exact hS
  | true =>
    obtain ⟨p, hp⟩ := (rel_there h.doc.rise h.rel id).1 hn
    obtain ⟨a, c, hF, hSt⟩ := h.idx.f1 id p hp
    refine (get_there x bp bn np Dp F id hwf w h.idx.two h.idx.mp h.idx.pis _ hF p hSt.cs (h.idx.may _ hp)).mono fun e w1 hr => ?_
    obtain ⟨p1, c1, r, he, hNm⟩ := hr
    have hlt := has_lt hn
    have hmem : L.getD (atOf L id) default ∈ L := by rw [List.getD_eq_getElem?_getD, List.getElem?_eq_getElem hlt]; exact List.getElem_mem hlt
    obtain ⟨p2, c2, hv2⟩ := (h.doc.cs _ hmem).1.form
    refine ⟨p1, c1, r, true, he, hNm.own, fun d hd => may_name8 (norm_may hNm.is hNm.len (h.idx.may _ hp)) d hd, hNm.bel, fun w2 b2 => (rget_there g v L id w2 (h.doc.ref.ref.later (then_ hNm.bel b2)) hn p2 _ c2 hv2).mono fun e w3 ⟨he, b3⟩ => ⟨p2, _, c2, he, b3, fun w4 b4 => ?_⟩⟩
    have hid : (L.getD (atOf L id) default).1 = id := by
      unfold hasOf at hn
      rw [if_pos hlt] at hn
      exact of_decide_eq_true hn
    have hq : (q (L.getD (atOf L id) default)).map bare = p.map bare := rel_get h.rel h.idx.nd hmem (by rw [hid]; exact hp)
    obtain ⟨l0, hl0⟩ := h.nf _ hp
    have hsame : cmpL cmpC r (q (L.getD (atOf L id) default)) = 0 := same_bare ((norm_twice hl0 hNm.is).trans hq.symm)
    have hb4 := then_ (then_ hNm.bel b2) (then_ b3 b4)
    have hC1 : Cs w4 (.slice p1 r.length c1) r := (OwnC.cs (OwnC.later hNm.own (then_ (then_ b2 b3) b4)) (by have h1 := hNm.len; have h2 := (may_len (h.idx.may _ hp)).1; simp only at h2; omega) (fun d hd => by have := hNm.sets d hd; omega))
    have hC2 := (h.doc.cs _ hmem).later hb4
    rw [hv2] at hC2
    have hS := psame_any _ _ r _ w4 hC1 hC2
    rw [hsame] at hS
    exact hS
/-- The numbers of both. -/
theorem ids_perm {w : World} {Sr : Nat → Prop} {t np nn : Nat} {Dp Dn : DataW Value} {D : List Ent} {F : Int → Option Value} {U : ByteArray → Value} (h : Idx8 Bs w Sr x bp bn t np nn Dp Dn D F U) : (D.map (·.1)).Perm (intKeys Dp) := by
  obtain ⟨es, rfl, hpw, hkl⟩ := h.mp.entries (Maps.int_keyed Tryz.underlying3)
  have hki : ∀ p ∈ es, ∃ x, p.1 = .int .i64 x ∧ (Lit.int .i64 x).wf = true := by
    obtain ⟨es0, clock, hb, F0, _, e⟩ := h.mp
    have hk := Maps.fit_keys F0
    injection e with e
    intro p hp
    rw [e] at hp
    obtain ⟨key, hkey⟩ := hk p (mem_sorted.1 hp)
    obtain ⟨x, _, hx⟩ := Maps.keyOf_int_inv Tryz.underlying3 hkey
    exact ⟨x, hx.1, hx.2⟩
  refine perm_intKeys hpw (fun p hp => by obtain ⟨x, hx, _⟩ := hki p hp; exact ⟨x, hx⟩) h.nd fun z => ?_
  constructor
  · intro hz
    obtain ⟨e, he, rfl⟩ := List.mem_map.1 hz
    obtain ⟨a, c, hF, _⟩ := h.f1 e.1 e.2 he
    rw [h.pis.has _ (h.wf e he), hF]; rfl
  · intro hz
    have hz2 := hz
    rw [Maps.has_eq, List.any_eq_true] at hz2
    obtain ⟨p, hp, hsk⟩ := hz2
    obtain ⟨y, hy, hwf⟩ := hki p hp
    rw [hy] at hsk
    have hyz : y = z := by simpa [Lit.sameKey] using hsk
    subst hyz
    rw [h.pis.has _ hwf] at hz
    cases hf : F y with
    | none => rw [hf] at hz; cases hz
    | some v => obtain ⟨q, hq⟩ := h.f2 y v hf; exact List.mem_map.2 ⟨_, hq, rfl⟩
/-- Ids of both: how many there are, and which. -/
def IdsBoth (L : List Itm) (w : World) (e : Ending) (w1 : World) : Prop := ∃ (p : Option Addr) (c : Nat), e = .returned (.slice p L.length c) ∧ RowIn encN 1 w1 (.slice p L.length c) (L.map (·.1)) ∧ Below w.heap.size w w1
theorem ids_both (h : Both8 K Bs x bp bn g s w) : ∃ (v : Value) (L : List Itm), RefB w g v L ∧ ∀ W, Below w.heap.size w W → Calls Tryz.prog 20 #[.pointer (some ⟨x, 0, none⟩)] W (IdsBoth L W) := by
  obtain ⟨t, np, nn, Sr, St, Dp, Dn, D, F, U, v, L, q, ht, h⟩ := h
  refine ⟨v, L, h.doc.ref, fun W hb => ?_⟩
  have hI := h.idx.later hb
  have hl := hI.len
  refine (ids_any x bp bn np Dp W hI.two hI.mp (by rw [hI.szp]; unfold maxLen; omega) (by rw [hI.szp]; omega)).mono fun e w1 hr => ?_
  obtain ⟨u, ss, he, hp, hrow, _, b1⟩ := hr
  have hs1 : (ss.mergeSort fun x y => decide (x ≤ y)) = L.map (·.1) := (sort_perm (hp.trans (ids_perm hI).symm)).trans (rel_sorted h.doc.rise h.rel)
  have hs2 : ss.length = L.length := by rw [← List.length_map (f := fun x : Itm => x.1), ← hs1, List.length_mergeSort]
  rw [hs1, hs2] at hrow
  obtain ⟨p, c, rfl⟩ := own_shape hrow
  refine ⟨p, c, he, OwnN.row (base := W.heap.size) ?_, b1⟩
  unfold OwnN
  rw [List.length_map]
  exact hrow
end
end Go.Proofs.YtlnjmcodgdebmaaGreat.Gm
