/- Layer 8: two indexes side by side: what leaves them as they were. -/
import Derived.Test.YtaplgoachembdaaGreatHra
import Derived.Test.YtaplgoachembdaaGreatRMg
import Derived.Test.YtaplgoachembdaaGreatHrd
import Derived.Test.YtaplgoachembdaaGreatHxc
/- Layer 8: the document's Add. -/
set_option linter.unusedSimpArgs false
set_option linter.unusedVariables false
namespace Go.Proofs.YtaplgoachembdaaGreat.Gm
open Go Go.RowKit
attribute [local go_sem ↓] Go.wp_at_zero Go.wp_at_succ

theorem own_c_set {w : World} {B g : Nat} {v : Value} {r : List Cn} (h : OwnC w B v r) (hg : g < B) (u : Value) : OwnC (w.setCell ⟨g, 0, none⟩ u) B v r :=
  ⟨ownsRow_setCell_other (a := ⟨g, 0, none⟩) h.1 (fun he => by have := (World.ownsRow.lt h.1 _ he).1; simp only at this; omega) u, fun c hc => ownsRow_setCell_other (a := ⟨g, 0, none⟩) (h.2 c hc) (fun he => by have := (World.ownsRow.lt (h.2 c hc) _ he).1; simp only at this; omega) u⟩
theorem radd_neg (g : Nat) (id : Int) (v : Value) (w : World) (hid : id < 0) : Calls Tryz.prog 10 #[.pointer (some ⟨g, 0, none⟩), .int .i64 id, v] w (Gives (.int .i64 1) w) := by
  go_enter Tryz.func10, Tryz.ntmps10
  go_wp2_with fail
  go_ret
  exact ⟨rfl, Below.refl _ _⟩
theorem radd_mal (g : Nat) (id : Int) (v : Value) (l : List Cn) (w : World) (hid : 0 ≤ id) (hC : Cs w v l) (hm : mayPr l = false) : Calls Tryz.prog 10 #[.pointer (some ⟨g, 0, none⟩), .int .i64 id, v] w (Gives (.int .i64 30) w) := by
  obtain ⟨p0, cap0, rfl⟩ := hC.1.form
  have HN := Lib.hid (rnormal_no _ l w hC hm)
  have h1 : ¬ id < 0 := by omega
  clear hC hm
  go_enter Tryz.func10, Tryz.ntmps10
  go_wp2_with fail
  refine HN.out.mono ?_; rintro e w1 ⟨rfl, b1⟩
  have HB := Lib.hid b1
  clear b1
  go_wp2_with fail
  go_ret
  exact ⟨rfl, HB.out⟩
theorem radd_there (g : Nat) (u : Value) (L : List Itm) (id : Int) (v : Value) (l : List Cn) (w : World) (h : RefB w g u L) (hid : 0 ≤ id) (hC : Cs w v l) (hm : mayPr l = true) (hn : hasOf L id = true) : Calls Tryz.prog 10 #[.pointer (some ⟨g, 0, none⟩), .int .i64 id, v] w (Gives (.int .i64 9) w) := by
  obtain ⟨p0, cap0, rfl⟩ := hC.1.form
  have HN := Lib.hid (rnormal_yes _ l w hC hm)
  have HC := Lib.hid (fun W (hb : Below w.heap.size w W) => has_any g _ L id W (h.later hb).ref)
  rw [hn] at HC
  have h1 : ¬ id < 0 := by omega
  clear hC hm h hn
  go_enter Tryz.func10, Tryz.ntmps10
  go_wp2_with fail
  refine HN.out.mono ?_; rintro e w1 ⟨p, cap, r, rfl, hN⟩
  have HB := Lib.hid hN.bel
  clear hN HN
  go_wp2_with fail
  refine (HC.out _ HB.out).mono ?_; rintro e w2 ⟨rfl, b2⟩
  have HB2 := Lib.hid (then_ HB.out b2)
  clear b2
  go_wp2_with fail
  go_ret
  exact ⟨rfl, HB2.out⟩
theorem radd_full (g : Nat) (u : Value) (L : List Itm) (id : Int) (v : Value) (l : List Cn) (w : World) (h : RefB w g u L) (hid : 0 ≤ id) (hC : Cs w v l) (hm : mayPr l = true) (hn : hasOf L id = false) (hlen : ¬ L.length < 256) : Calls Tryz.prog 10 #[.pointer (some ⟨g, 0, none⟩), .int .i64 id, v] w (Gives (.int .i64 7) w) := by
  obtain ⟨p0, cap0, rfl⟩ := hC.1.form
  obtain ⟨pL, capL, rfl⟩ := h.row.form
  have HN := Lib.hid (rnormal_yes _ l w hC hm)
  have HC := Lib.hid (fun W (hb : Below w.heap.size w W) => has_any g _ L id W (h.later hb).ref)
  have HR := Lib.hid h
  rw [hn] at HC
  have h1 : ¬ id < 0 := by omega
  have h2 : (256 : Int) ≤ (L.length : Int) := by omega
  clear hC hm h hn hlen
  go_enter Tryz.func10, Tryz.ntmps10
  go_wp2_with fail
  refine HN.out.mono ?_; rintro e w1 ⟨p, cap, r, rfl, hN⟩
  have HB := Lib.hid hN.bel
  clear hN HN
  go_wp2_with fail
  refine (HC.out _ HB.out).mono ?_; rintro e w2 ⟨rfl, b2⟩
  have HB2 := Lib.hid (then_ HB.out b2)
  have h0 := (HR.out.later HB2.out).blk.cell 0 rfl
  clear b2
  go_wp2_with fail
  go_ret
  exact ⟨rfl, HB2.out⟩
/-- What the document's Add leaves that puts one in: its normal form, in its own memory. -/
def AddD (g : Nat) (L : List Itm) (id : Int) (l : List Cn) (w : World) (e : Ending) (w' : World) : Prop :=
  e = .returned (.int .i64 0) ∧ ∃ (v' : Value) (p : Option Addr) (cap : Nat) (r : List Cn), RefB w' g v' (putIn L (id, .slice p r.length cap)) ∧ Only [g] w w' ∧ OwnC w' w.heap.size (.slice p r.length cap) r ∧ ∃ wn, Norm l w wn p cap r
set_option maxHeartbeats 2000000 in
set_option maxRecDepth 100000 in
theorem radd_ok (g : Nat) (u : Value) (L : List Itm) (id : Int) (v : Value) (l : List Cn) (w : World) (h : RefB w g u L) (hid : 0 ≤ id) (hC : Cs w v l) (hm : mayPr l = true) (hn : hasOf L id = false) (hlen : L.length < 256) : Calls Tryz.prog 10 #[.pointer (some ⟨g, 0, none⟩), .int .i64 id, v] w (AddD g L id l w) := by
  obtain ⟨i0, ii, iz0, iz1, iz2⟩ := info_parts infoI
  obtain ⟨p0, cap0, rfl⟩ := hC.1.form
  obtain ⟨pL, capL, rfl⟩ := h.row.form
  have HN := Lib.hid (rnormal_yes _ l w hC hm)
  have HC := Lib.hid (fun W (hb : Below w.heap.size w W) => has_any g _ L id W (h.later hb).ref)
  have HA := Lib.hid (fun W (hb : Below w.heap.size w W) => at_any g _ L id W (h.later hb).ref)
  have HR := Lib.hid h
  rw [hn] at HC
  obtain ⟨k, hk⟩ : ∃ k, atOf L id = k := ⟨_, rfl⟩
  have hkl := atOf_le L id
  have HT : Hid (∀ x, putIn L (id, x) = L.take k ++ (id, x) :: L.drop k) := Lib.hid (fun x => by rw [← hk]; rfl)
  rw [hk] at HA hkl
  have HL : Hid ((L.take k).length = k ∧ (L.drop k).length = L.length - k) := Lib.hid ⟨by rw [List.length_take]; omega, by rw [List.length_drop]⟩
  have h1 : ¬ id < 0 := by omega
  have h2 : ¬ (256 : Int) ≤ (L.length : Int) := by omega
  clear hC hm h hn hk
  go_enter Tryz.func10, Tryz.ntmps10
  go_wp2_with fail
  refine HN.out.mono ?_; rintro e w1 ⟨p, cap, r, rfl, hN⟩
  have HB := Lib.hid hN.bel
  have HNo := Lib.hid hN
  obtain ⟨nr, hnr⟩ : ∃ nr, r.length = nr := ⟨_, rfl⟩
  rw [hnr]
  clear hN HN
  go_wp2_with fail
  refine (HC.out _ HB.out).mono ?_; rintro e w2 ⟨rfl, b2⟩
  have HB2 := Lib.hid (then_ HB.out b2)
  have HB12 := Lib.hid b2
  have h0 := (HR.out.later HB2.out).blk.cell 0 rfl
  clear b2 HC
  go_wp2_with fail
  refine (HA.out _ HB2.out).mono ?_; rintro e w3 ⟨rfl, b3⟩
  have HB3 := Lib.hid (then_ HB2.out b3)
  have HB13 := Lib.hid (then_ HB12.out b3)
  clear b3 HA h0
  have HR3 := Lib.hid (HR.out.later HB3.out)
  have h0 := HR3.out.blk.cell 0 rfl
  have hl0 := HR3.out.blk.lt
  have hro := row_room HR3.out.row
  have hs1 := fun W => slice_pre_i pL L.length capL k hkl hro.1 hro.2 W
  have hs2 := fun W => slice_suf_i pL L.length capL k hkl hro.1 hro.2 W
  have HSa := Lib.hid (src_i (fun e he => HR3.out.one e (List.mem_of_mem_take he)) (row_pre (k := k) hkl HR3.out.row))
  rw [HL.out.1] at HSa
  clear hro
  go_wp2_with (first
    | (at_builtin; refine wpList_append_src (by rfl) _ _ 27 (by rfl) w3.heap.size 57 i0 (.agg #[.int .i64 0, .slice none 0 0]) 2 32 Tryz.underlying27 ii iz0 iz1 iz2 rfl (by decide) (.slice none 0 0) 0 [] (by rfl) (World.ownsRow_nil _ _ _ _) _ k ((L.take k).flatMap encItm) (by rfl) HSa.out k (by omega) (by unfold maxLen; omega) (by omega) (Nat.le_refl _) ?_; intro pA capA wA hownA hgrowA; rw [List.nil_append] at hownA; have HOA := Lib.hid hownA; have HBA := Lib.hid ((Below.refl _ w3).grown hgrowA (Nat.le_refl _) (fun t ht => by simp [Value.ownBlock] at ht)); have hzA := HBA.out.size; clear hownA hgrowA HSa h0)
    | (at_builtin; refine wpList_append_src (by rfl) _ _ 27 (by rfl) w3.heap.size 57 i0 (.agg #[.int .i64 0, .slice none 0 0]) 2 32 Tryz.underlying27 ii iz0 iz1 iz2 rfl (by decide) _ _ _ (by rfl) (World.ownsRow.alloc HOA.out (.cells #[.int .i64 id, .slice p nr cap] 57)) _ 1 (encItm (id, .slice p nr cap)) (by rfl) (.inr ⟨_, _, by rfl, by rfl, fun t u hu => by rw [add_lit, Nat.zero_add]; exact (Blk.new wA _ _).cell t (by simpa [encItm] using hu), by intro u hu; simp only [encItm, List.mem_cons, List.not_mem_nil, or_false] at hu; rcases hu with rfl | rfl <;> rfl⟩) (k + 1) rfl (by unfold maxLen; omega) (by omega) (by simp; omega) ?_; intro pB capB wB hownB hgrowB; have HOB := Lib.hid hownB; have HBB := Lib.hid ((HBA.out.alloc HBA.out.size (.cells #[.int .i64 id, .slice p nr cap] 57)).grown hgrowB (by simp; omega) (fun t ht => (World.ownsRow.lt HOA.out t (by simpa [Value.ownBlock] using ht)).1)); have hzB := HBB.out.size; have h0 := (HR3.out.blk.later HBB.out).cell 0 rfl; clear hownB hgrowB)
    | (at_builtin; have HSb := Lib.hid (src_i (fun e he => HR3.out.one e (List.mem_of_mem_drop he)) (row_suf (k := k) hkl (HR3.out.row.later HBB.out))); rw [HL.out.2] at HSb; refine wpList_append_src (by rfl) _ _ 27 (by rfl) w3.heap.size 57 i0 (.agg #[.int .i64 0, .slice none 0 0]) 2 32 Tryz.underlying27 ii iz0 iz1 iz2 rfl (by decide) _ _ _ (by rfl) HOB.out _ (L.length - k) ((L.drop k).flatMap encItm) (by rfl) HSb.out (L.length + 1) (by omega) (by unfold maxLen; omega) (by omega) hzB ?_; intro pC capC wC hownC hgrowC; have HOC := Lib.hid hownC; have HBC := Lib.hid (HBB.out.grown hgrowC hzB (fun t ht => (World.ownsRow.lt HOB.out t ht).1)); have x1 := (HR3.out.blk.later HBC.out).cell 0 rfl; have x2 := (HR3.out.blk.later HBC.out).free 0; have HKC := Lib.hid (HR3.out.blk.later HBC.out); clear hownC hgrowC HSb)
    | fail)
  go_ret
  subst hnr
  refine ⟨rfl, _, p, cap, r, ⟨HKC.out.set _, ?_, ?_, ?_⟩, only_grown (grown_set (grown_below (then_ HB3.out HBC.out) (some g)) _), own_c_set (HNo.out.own.later (then_ HB13.out HBC.out)) HR.out.blk.lt _, w1, HNo.out⟩
  · have h4 := ownsRow_setCell_other (a := ⟨g, 0, none⟩) HOC.out (HKC.out.apart HOC.out (by decide)) (.slice pC (L.length + 1) capC)
    rw [show (putIn L (id, .slice p r.length cap)).length = L.length + 1 by rw [HT.out, List.length_append, List.length_cons, HL.out.1, HL.out.2]; omega]
    rw [HT.out]
    refine own_base (base := w3.heap.size) ?_ (Nat.zero_le _)
    simpa using h4
  · intro e he
    rw [HT.out, List.mem_append, List.mem_cons] at he
    rcases he with he | rfl | he
    · exact HR.out.one e (List.mem_of_mem_take he)
    · rfl
    · exact HR.out.one e (List.mem_of_mem_drop he)
  · rw [HT.out, List.length_append, List.length_cons, HL.out.1, HL.out.2]; omega
end Go.Proofs.YtaplgoachembdaaGreat.Gm
/- Layer 8, plain: an index and the document's: the same predicates by the same numbers. -/
set_option linter.unusedSimpArgs false
set_option linter.unusedVariables false
namespace Go.Proofs.YtaplgoachembdaaGreat.Gm
open Go Go.RowKit

def bareE (e : Ent) : Ent := (e.1, e.2.map bare)
def toE (q : Itm → List Cn) (x : Itm) : Ent := (x.1, q x)
/-- The same predicates by the same numbers. -/
def Rel8 (L : List Itm) (q : Itm → List Cn) (D : List Ent) : Prop := ((L.map (toE q)).map bareE).Perm (D.map bareE)
theorem matches_bare8 (p : List Cn) (l : List At) : matchesB (p.map bare) l = matchesB p l := by
  unfold matchesB; rw [List.all_map]; rfl
theorem asked_bare8 (p : List Cn) (l : List At) : asked8 l (p.map bare) = asked8 l p := by
  unfold asked8; rw [List.countP_map]; rfl
theorem sort_of_perm {A B : List Int} (hp : A.Perm B) (hs : A.Pairwise fun x y : Int => x ≤ y) : B.mergeSort (fun x y => decide (x ≤ y)) = A := by
  have ht : (B.mergeSort fun x y => decide (x ≤ y)).Pairwise (fun x y : Int => x ≤ y) := by
    have := List.pairwise_mergeSort (le := fun x y : Int => decide (x ≤ y)) (fun a b c h1 h2 => by simp at *; omega) (fun a b => by simp; omega) B
    exact this.imp fun {a b} hab => by simpa using hab
  exact ((hp.trans (List.mergeSort_perm B _).symm).eq_of_pairwise (fun a b _ _ h1 h2 => Int.le_antisymm h1 h2) hs ht).symm
theorem rise_map {L : List Itm} (h : Rise8 L) : (L.map (·.1)).Pairwise fun x y : Int => x ≤ y := by
  rw [List.pairwise_map]; exact h.imp fun {a b} hab => Int.le_of_lt hab
theorem filter_bare (D : List Ent) (l : List At) : ((D.map bareE).filter fun e => matchesB e.2 l) = (D.filter fun e => matchesB e.2 l).map bareE := by
  rw [List.filter_map]
  congr 1
  apply List.filter_congr
  intro e _
  exact matches_bare8 e.2 l
/-- Match tells the same. -/
theorem matched_rel {L : List Itm} {q : Itm → List Cn} {D : List Ent} (hr : Rise8 L) (h : Rel8 L q D) (l : List At) : matched D l = rmatched L q l := by
  unfold matched rmatched
  apply sort_of_perm
  · have h1 := (h.filter fun e => matchesB e.2 l).map (·.1)
    rw [filter_bare, filter_bare, List.map_map, List.map_map, List.filter_map, List.map_map] at h1
    exact h1
  · exact rise_map (List.Pairwise.filter _ hr)
theorem asked_get (l : List At) (p : List Cn) : asked8 l p = p.countP fun c => (getE l c.nm).isSome := by
  unfold asked8; congr 1; funext c; exact hasN_get l c.nm
/-- Looks counts the same. -/
theorem looks_rel {L : List Itm} {q : Itm → List Cn} {D : List Ent} (h : Rel8 L q D) (l : List At) : looks D l = rlooks L q l := by
  have e1 : ∀ E : List Ent, (E.map fun e => e.2.countP fun c => (getE l c.nm).isSome) = (E.map bareE).map fun e => asked8 l e.2 := fun E => by
    rw [List.map_map]; apply List.map_congr_left; intro e _
    exact (asked_get l e.2).symm.trans (asked_bare8 e.2 l).symm
  have e2 : (L.map fun e => asked8 l (q e)) = ((L.map (toE q)).map bareE).map fun e => asked8 l e.2 := by
    rw [List.map_map, List.map_map]; apply List.map_congr_left; intro e _
    exact (asked_bare8 (q e) l).symm
  unfold looks rlooks
  rw [e1, e2]
  exact (h.symm.map _).sum_nat
theorem rel_len {L : List Itm} {q : Itm → List Cn} {D : List Ent} (h : Rel8 L q D) : L.length = D.length := by
  have := h.length_eq; simpa using this
theorem rel_ids {L : List Itm} {q : Itm → List Cn} {D : List Ent} (h : Rel8 L q D) : (L.map (·.1)).Perm (D.map (·.1)) := by
  have := h.map (·.1)
  rw [List.map_map, List.map_map, List.map_map] at this
  exact this
theorem rel_sorted {L : List Itm} {q : Itm → List Cn} {D : List Ent} (hr : Rise8 L) (h : Rel8 L q D) : (D.map (·.1)).mergeSort (fun x y => decide (x ≤ y)) = L.map (·.1) := sort_of_perm (rel_ids h) (rise_map hr)
theorem rel_there {L : List Itm} {q : Itm → List Cn} {D : List Ent} (hr : Rise8 L) (h : Rel8 L q D) (id : Int) : hasOf L id = true ↔ ∃ p, (id, p) ∈ D := by
  rw [hasOf_iff hr]
  have hm := (rel_ids h).mem_iff (a := id)
  constructor
  · rintro ⟨e, he, rfl⟩
    obtain ⟨d, hd, e1⟩ := List.mem_map.1 (hm.1 (List.mem_map.2 ⟨e, he, rfl⟩))
    exact ⟨d.2, by rw [← e1]; exact hd⟩
  · rintro ⟨p, hp⟩
    obtain ⟨e, he, e1⟩ := List.mem_map.1 (hm.2 (List.mem_map.2 ⟨_, hp, rfl⟩))
    exact ⟨e, he, e1⟩
/-- What the document's index holds behind an Add. -/
def putQ (q : Itm → List Cn) (id : Int) (r : List Cn) (e : Itm) : List Cn := if e.1 = id then r else q e
theorem rel_put {L : List Itm} {q : Itm → List Cn} {D : List Ent} (hr : Rise8 L) (h : Rel8 L q D) {id : Int} (hn : hasOf L id = false) (u : Value) {r r2 : List Cn} (he : r2.map bare = r.map bare) : Rel8 (putIn L (id, u)) (putQ q id r2) (D ++ [(id, r)]) := by
  have hne : ∀ e ∈ L, e.1 ≠ id := fun e hm hh => by
    have := (hasOf_iff hr id).2 ⟨e, hm, hh⟩
    rw [hn] at this; cases this
  unfold Rel8 at h ⊢
  have h1 := ((putIn_perm L (id, u)).map (toE (putQ q id r2))).map bareE
  have h2 : ((id, u) :: L).map (toE (putQ q id r2)) = (id, r2) :: L.map (toE q) := by
    rw [List.map_cons]
    congr 1
    · simp [toE, putQ]
    · apply List.map_congr_left; intro e hm; simp [toE, putQ, hne e hm]
  rw [h2, List.map_cons] at h1
  refine h1.trans ?_
  rw [List.map_append, List.map_cons, List.map_nil]
  have h3 : bareE (id, r2) = bareE (id, r) := by unfold bareE; simp only; rw [he]
  rw [h3]
  exact (h.cons _).trans (List.perm_append_singleton _ _).symm
theorem rel_take {L : List Itm} {q : Itm → List Cn} {D : List Ent} (hr : Rise8 L) (h : Rel8 L q D) {id : Int} (hi : hasOf L id = true) : Rel8 (takeOut L id) q (D.filter fun e => !decide (e.1 = id)) := by
  rw [takeOut_filter hr hi]
  unfold Rel8 at h ⊢
  have h1 := h.filter fun e => !decide (e.1 = id)
  rw [List.filter_map, List.filter_map, List.filter_map] at h1
  exact h1
theorem rel_nil (q : Itm → List Cn) : Rel8 [] q [] := List.Perm.refl _
/-- What stands under a number is the same in both. -/
theorem rel_get {L : List Itm} {q : Itm → List Cn} {D : List Ent} (h : Rel8 L q D) (hd : (D.map (·.1)).Nodup) {x : Itm} (hx : x ∈ L) {p : List Cn} (hp : (x.1, p) ∈ D) : (q x).map bare = p.map bare := by
  have h1 : bareE (toE q x) ∈ D.map bareE := h.mem_iff.1 (List.mem_map.2 ⟨_, List.mem_map.2 ⟨x, hx, rfl⟩, rfl⟩)
  obtain ⟨d, hdm, e1⟩ := List.mem_map.1 h1
  have e2 : d.1 = x.1 := congrArg Prod.fst e1
  have e3 : d.2.map bare = (q x).map bare := congrArg Prod.snd e1
  have e4 : d = (x.1, p) := nodup_inj8 hd hdm hp e2
  rw [← e3, e4]
end Go.Proofs.YtaplgoachembdaaGreat.Gm
set_option linter.unusedSimpArgs false
set_option linter.unusedVariables false
namespace Go.Proofs.YtaplgoachembdaaGreat.Gm
open Go Go.RowKit Go.Maps
variable {B : Nat}

/-- A block that is none of an index's own: of other types, or of a predicate that it does not hold. -/
def Odd (A B : TypeId) (S : Nat → Prop) (w : World) (k : Nat) : Prop := ∃ cs t fr, w.heap[k]? = some (.cells cs t fr) ∧ t ≠ A ∧ t ≠ B ∧ ((t = 45 ∨ t = 42) → ¬ S k)
section
variable {A B : TypeId} {S : Nat → Prop} {w w' : World} {F : List Nat}
theorem odd_not_blk (hF : ∀ k ∈ F, Odd A B S w k) {g : Nat} {cs : Array Value} (h : Blk w g A cs) : g ∉ F := fun hm => by
  obtain ⟨cs', t, fr, e, h1, _⟩ := hF g hm
  unfold Blk at h
  rw [h] at e
  injection e with e
  injection e with _ e
  exact h1 e.symm
theorem only_blk (hF : ∀ k ∈ F, Odd A B S w k) (ho : Only F w w') {g : Nat} {cs : Array Value} (h : Blk w g A cs) : Blk w' g A cs := (ho.2.2.2.2 g h.lt (odd_not_blk hF h)).trans h
theorem only_own (hF : ∀ k ∈ F, Odd A B S w k) (ho : Only F w w') {base s n : Nat} {v : Value} {xs : List Value} (h : w.ownsRow base B s v n xs) : w'.ownsRow base B s v n xs := by
  refine ⟨h.1, ?_⟩
  rcases h.2 with h0 | ⟨g, cap, cur, rfl, hb, hh, r⟩
  · exact .inl h0
  · refine .inr ⟨g, cap, cur, rfl, hb, (ho.2.2.2.2 g (lt_of_block hh) (fun hm => ?_)).trans hh, r⟩
    obtain ⟨cs', t, fr, e, _, h1, _⟩ := hF g hm
    rw [hh] at e
    injection e with e
    injection e with _ e
    exact h1 e.symm
theorem only_map (hF : ∀ k ∈ F, Odd A B S w k) (ho : Only F w w') {k : TypeId} {R : Value → Option (DataW Value × List MemPlace)} {b n : Nat} {D : DataW Value} (hm : w.ownsMap Tryz.prog k R b n D) : w'.ownsMap Tryz.prog k R b n D := by
  have hl := hm.lt
  obtain ⟨es, clock, e, r⟩ := hm
  refine ⟨es, clock, (ho.2.2.2.2 b hl (fun hm => ?_)).trans e, r⟩
  obtain ⟨cs', t, fr, e2, _⟩ := hF b hm
  rw [e] at e2; cases e2
theorem only_agree (hF : ∀ k ∈ F, Odd A B S w k) (ho : Only F w w') : AgreeS S w w' := ⟨ho.size, fun k hk hS cs t fr hc ht => ho.2.2.2.2 k hk (fun hm => by
  obtain ⟨cs', t', fr', e, _, _, h3⟩ := hF k hm
  rw [hc] at e
  injection e with e
  injection e with _ e
  exact h3 (e ▸ ht) hS)⟩
end
/-- What writes no block of an index's own leaves it as it was. -/
theorem Idx8.only {w w' : World} {Sr : Nat → Prop} {x bp bn t np nn : Nat} {Dp Dn : DataW Value} {D : List Ent} {F : Int → Option Value} {U : ByteArray → Value} (h : Idx8 B w Sr x bp bn t np nn Dp Dn D F U) {K : List Nat}
    (hF : ∀ k ∈ K, Odd 72 77 Sr w k) (ho : Only K w w') : Idx8 B w' Sr x bp bn t np nn Dp Dn D F U := by
  refine ⟨only_blk hF ho h.blk, h.ne, only_map hF ho h.mp, only_map hF ho h.mn, h.npt, h.nnt, h.szp, h.tdp, h.isn, h.pis, fun i p hp => ?_, h.f2, ⟨h.own.at_, fun nm hn => only_own hF ho (h.own.row nm hn), h.own.apart⟩, fun k hk => Nat.lt_of_lt_of_le (h.srl k hk) ho.size, h.nd, h.wf, h.may, h.len, Nat.le_trans h.base.1 ho.size, h.base.2⟩
  obtain ⟨a, c, h1, h2⟩ := h.f1 i p hp
  exact ⟨a, c, h1, h2.go (only_agree hF ho) fun _ h => h⟩
/-- The document's index with its predicates, in blocks of its own. -/
structure Doc8 (w : World) (St : Nat → Prop) (g : Nat) (v : Value) (L : List Itm) (q : Itm → List Cn) : Prop where
  ref : RefB w g v L
  st : ∀ e ∈ L, StabCs St w e.2 (q e)
  stl : ∀ k, St k → k < w.heap.size
  may : ∀ e ∈ L, mayPr (q e) = true
  rise : Rise8 L
theorem Doc8.cs {w : World} {St : Nat → Prop} {g : Nat} {v : Value} {L : List Itm} {q : Itm → List Cn} (h : Doc8 w St g v L q) : ∀ e ∈ L, Cs w e.2 (q e) := fun e he => (h.st e he).cs
theorem Doc8.six {w : World} {St : Nat → Prop} {g : Nat} {v : Value} {L : List Itm} {q : Itm → List Cn} (h : Doc8 w St g v L q) : ∀ e ∈ L, (q e).length ≤ 6 := fun e he => (may_len (h.may e he)).1
theorem Doc8.later {w w' : World} {St : Nat → Prop} {g : Nat} {v : Value} {L : List Itm} {q : Itm → List Cn} (h : Doc8 w St g v L q) (hb : Below w.heap.size w w') : Doc8 w' St g v L q :=
  ⟨h.ref.later hb, fun e he => (h.st e he).go (agree_below hb) fun _ h => h, fun k hk => Nat.lt_of_lt_of_le (h.stl k hk) hb.size, h.may, h.rise⟩
theorem Doc8.only {w w' : World} {St : Nat → Prop} {g : Nat} {v : Value} {L : List Itm} {q : Itm → List Cn} (h : Doc8 w St g v L q) {K : List Nat}
    (hF : ∀ k ∈ K, Odd 29 57 St w k) (ho : Only K w w') : Doc8 w' St g v L q :=
  ⟨⟨only_blk hF ho h.ref.blk, only_own hF ho h.ref.own, h.ref.one, h.ref.len⟩, fun e he => (h.st e he).go (only_agree hF ho) fun _ h => h, fun k hk => Nat.lt_of_lt_of_le (h.stl k hk) ho.size, h.may, h.rise⟩
/-- The program's changes leave the document's index as it was. -/
theorem Doc8.keep {w w' : World} {St : Nat → Prop} {g : Nat} {v : Value} {L : List Itm} {q : Itm → List Cn} (h : Doc8 w St g v L q) {S : List Nat} (hk : Keep8 B S w w') (hS : MapsAt w S) : Doc8 w' St g v L q := by
  refine ⟨⟨hk.blk h.ref.blk (by decide) (fun hm => ?_), hk.own hS h.ref.own (by decide), h.ref.one, h.ref.len⟩, fun e he => (h.st e he).go (agree_keep hk hS) fun _ h => h, fun k hk' => Nat.lt_of_lt_of_le (h.stl k hk') hk.size, h.may, h.rise⟩
  obtain ⟨es, c, e⟩ := hS g hm
  have hb := h.ref.blk
  unfold Blk at hb
  rw [hb] at e; cases e
/-- The document's index's own block is none of the program's index. -/
theorem Doc8.odd {w : World} {St Sr : Nat → Prop} {g : Nat} {v : Value} {L : List Itm} {q : Itm → List Cn} (h : Doc8 w St g v L q) : ∀ k ∈ [g], Odd 72 77 Sr w k := fun k hk => by
  rw [List.mem_singleton.1 hk]
  have hb := h.ref.blk
  unfold Blk at hb
  exact ⟨_, _, _, hb, by decide, by decide, fun ht => absurd ht (by decide)⟩
theorem mem_take8 {L : List Itm} {id : Int} {e : Itm} (h : e ∈ takeOut L id) : e ∈ L := by
  unfold takeOut at h
  rcases List.mem_append.1 h with h | h
  · exact List.mem_of_mem_take h
  · exact List.mem_of_mem_drop h
theorem only_agree1 {w w' : World} {St : Nat → Prop} {g : Nat} {cs : Array Value} (hb : Blk w g 29 cs) (ho : Only [g] w w') : AgreeS St w w' := ⟨ho.size, fun k hk _ cs t fr hc ht => ho.2.2.2.2 k hk (fun hm => by
  rw [List.mem_singleton.1 hm] at hc
  unfold Blk at hb
  rw [hb] at hc
  injection hc with hc
  injection hc with _ hc
  subst hc
  revert ht; decide)⟩
/-- Behind the document's Remove. -/
theorem Doc8.remove {w w' : World} {St : Nat → Prop} {g : Nat} {v v' : Value} {L : List Itm} {q : Itm → List Cn} (h : Doc8 w St g v L q) {id : Int} (hi : hasOf L id = true) (hr : RefB w' g v' (takeOut L id)) (ho : Only [g] w w') : Doc8 w' St g v' (takeOut L id) q :=
  ⟨hr, fun e he => (h.st e (mem_take8 he)).go (only_agree1 h.ref.blk ho) fun _ h => h, fun k hk => Nat.lt_of_lt_of_le (h.stl k hk) ho.size, fun e he => h.may e (mem_take8 he), takeOut_rise h.rise hi⟩
/-- Behind the document's Add: the blocks made since are its, too. -/
theorem Doc8.add {w w' : World} {St : Nat → Prop} {g : Nat} {v v' : Value} {L : List Itm} {q : Itm → List Cn} (h : Doc8 w St g v L q) {id : Int} (hn : hasOf L id = false) {p : Option Addr} {cap : Nat} {r : List Cn} (hr : RefB w' g v' (putIn L (id, .slice p r.length cap))) (ho : Only [g] w w')
    (hO : OwnC w' w.heap.size (.slice p r.length cap) r) (hmay : mayPr r = true) (hs : ∀ c ∈ r, c.set.length ≤ 100000) : Doc8 w' (fun k => St k ∨ (w.heap.size ≤ k ∧ k < w'.heap.size)) g v' (putIn L (id, .slice p r.length cap)) (putQ q id r) := by
  have hne : ∀ e ∈ L, e.1 ≠ id := fun e hm hh => by
    have := (hasOf_iff h.rise id).2 ⟨e, hm, hh⟩
    rw [hn] at this; cases this
  have hmem : ∀ e ∈ putIn L (id, .slice p r.length cap), e = (id, .slice p r.length cap) ∨ e ∈ L := fun e he => List.mem_cons.1 ((putIn_perm L _).mem_iff.1 he)
  refine ⟨hr, fun e he => ?_, fun k hk => ?_, fun e he => ?_, putIn_rise h.rise hn⟩
  · rcases hmem e he with rfl | hl
    · rw [show putQ q id r (id, Value.slice p r.length cap) = r by simp [putQ]]
      exact stab_own hO (by have := (may_len hmay).1; omega) (fun c hc => by have := hs c hc; omega) (fun k h1 h2 => .inr ⟨h1, h2⟩)
    · rw [show putQ q id r e = q e by simp [putQ, hne e hl]]
      exact (h.st e hl).go (only_agree1 h.ref.blk ho) fun _ h => .inl h
  · rcases hk with hk | hk
    · exact Nat.lt_of_lt_of_le (h.stl k hk) ho.size
    · exact hk.2
  · rcases hmem e he with rfl | hl
    · rw [show putQ q id r (id, Value.slice p r.length cap) = r by simp [putQ]]; exact hmay
    · rw [show putQ q id r e = q e by simp [putQ, hne e hl]]; exact h.may e hl
end Go.Proofs.YtaplgoachembdaaGreat.Gm
